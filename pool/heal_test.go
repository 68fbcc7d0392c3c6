package pool_test

import (
	"fmt"
	"maps"
	"math/rand"
	"slices"
	"testing"

	"stowage/api"
)

// spoiled are clones of drives of which, in each set, m at most have lost files, or have turned or empty ones, or nothing at all.
func spoiled(t *testing.T, r *rand.Rand, l drives, s shape) drives {
	t.Helper()
	l = clones(l)
	for set := range s.sets {
		for _, i := range r.Perm(s.each())[:r.Intn(s.m+1)] {
			d := l[s.places(set)[i]]
			if r.Intn(4) == 0 {
				l[s.places(set)[i]] = blank(t)
				continue
			}
			for _, name := range namesOf(d) {
				switch r.Intn(4) {
				case 0:
					d.Delete(name)
				case 1:
					d.Turn(name, r.Intn(50), 1)
				case 2:
					raw(t, d, name, nil)
				}
			}
		}
	}
	return l
}

// sameLaid asks whether drives have the same files, but for how often they were opened.
func sameLaid(t *testing.T, what string, l, wanted drives) {
	t.Helper()
	for i, d := range l {
		got, want := filesOf(d), filesOf(wanted[i])
		if _, there := got["boot"]; !there {
			t.Errorf("%s: drive %d has no boot file", what, i)
		}
		delete(got, "boot")
		delete(want, "boot")
		if !maps.Equal(got, want) {
			t.Errorf("%s: drive %d has %s; want %s", what, i, shown(got), shown(want))
		}
	}
}

// losses are all choices of drives that leave k of each set.
func losses(s shape) [][]int {
	all := [][]int{nil}
	for set := range s.sets {
		var longer [][]int
		for _, lost := range all {
			for _, own := range choices(s.each()) {
				if len(own) == s.m {
					longer = append(longer, slices.Concat(lost, some(s.places(set), own)))
				}
			}
		}
		all = longer
	}
	return all
}

// ways are how drives are lost.
func ways(t *testing.T) map[string]func(l drives, i int) {
	return map[string]func(l drives, i int){
		"exchanged": func(l drives, i int) { l[i] = blank(t) },
		"away":      func(l drives, i int) { away(l, i) },
		"turned": func(l drives, i int) {
			for _, name := range namesOf(l[i]) {
				l[i].Turn(name, 0, 128)
			}
		},
		"emptied": func(l drives, i int) {
			for _, name := range namesOf(l[i]) {
				l[i].Delete(name)
			}
		},
	}
}

// TestAnyMayBeLost: behind HealAll on drives that are up, any drives but k of each set are lost, in each way, and all is read as it was; and healed again, all stands as on drives to which nothing happened (P15.6).
func TestAnyMayBeLost(t *testing.T) {
	for _, s := range []shape{{1, 1, 1}, {1, 1, 3}, {2, 1, 2}, {1, 2, 2}, {2, 2, 2}, {3, 2, 1}, {2, 4, 1}} {
		t.Run(fmt.Sprint(s), func(t *testing.T) {
			t.Parallel()
			r := rand.New(rand.NewSource(1506))
			fresh, p := begun(t, s)
			all := slices.Concat(pathsOf(s.sets, 2)...)
			must(t, p, put("gone", version("x", 700), text(9, 9)), drop("gone", "x"))
			wanted := tells(t, fresh, s, append(all, "gone")...)
			for drawn := range 3 {
				healed := spoiled(t, r, fresh, s)
				must(t, opened(t, healed, s), healAll())
				sameLaid(t, "healed", healed, fresh)
				for _, lost := range losses(s) {
					for way, lose := range ways(t) {
						l := clones(healed)
						for _, i := range lost {
							lose(l, i)
						}
						what := fmt.Sprintf("drawn %d, %v %s", drawn, lost, way)
						_, err := opens(t, what, l, s, nil)
						want(t, what, err, api.OK)
						if got := tells(t, l, s, append(all, "gone")...); !slices.Equal(got, wanted) {
							t.Errorf("%s: %s; want %s", what, got, wanted)
						}
						back(l)
						must(t, opened(t, l, s), healAll())
						sameLaid(t, what+", healed again", l, fresh)
					}
				}
			}
		})
	}
}

// TestHealedByReading: a version that is got stands on all drives of its set then, with its journal, as a write without faults lays it (P7).
func TestHealedByReading(t *testing.T) {
	s := shape{2, 2, 2}
	fresh, _ := begun(t, s)
	for set, paths := range pathsOf(2, 2) {
		for _, lost := range [][]int{{0, 1}, {1, 3}, {2}} {
			l := clones(fresh)
			for _, i := range some(s.places(set), lost) {
				l[i] = blank(t)
			}
			p := opened(t, l, s)
			must(t, p, get(paths[0], "x"), part(paths[0], "y", 0, 0), get(paths[1], "y"), part(paths[1], "x", 1, 2))
			sameLaid(t, fmt.Sprint("set ", set, ", lost ", lost), l, fresh)
		}
	}
}

// TestHealAllWithoutRoom: a drive that is away or full is given nothing, and no error is told; when it is back, it is given all that it lacks.
func TestHealAllWithoutRoom(t *testing.T) {
	s := shape{1, 2, 2}
	start, _ := begun(t, s)
	for at := range s.all() {
		for why, disable := range map[string]func(d drives){"away": func(d drives) { away(d, at) }, "full": func(d drives) { d[at].Full(true) }} {
			l := clones(start)
			l[at] = blank(t)
			p := opened(t, l, s)
			disable(l)
			if got := step(t, why, p, l, healAll(), nil); !sameAnswer(got, answer{}) {
				t.Errorf("drive %d is %s: %v", at, why, got)
			}
			back(l)
			if got := step(t, why+", back", p, l, healAll(), nil); !sameAnswer(got, answer{n: 6}) {
				t.Errorf("drive %d was %s: %v", at, why, got)
			}
			sameLaid(t, why, l, start)
		}
	}
}
