package pool_test

import (
	"fmt"
	"slices"
	"strings"
	"testing"

	"stowage/api"
	"stowage/pool"
)

// wantPaths asks for the paths with a prefix.
func wantPaths(t *testing.T, p *pool.Pool, prefix string, wanted ...string) {
	t.Helper()
	if got, err := p.Paths(prefix); !slices.Equal(got, wanted) || err != api.OK {
		t.Errorf("Paths(%.20q): %.30q, %v; want %.30q", prefix, got, err, wanted)
	}
}

// TestPaths: of each prefix, over one set to four: just the objects that have versions, marks being some, rising.
func TestPaths(t *testing.T) {
	all := []string{"!", "a", "a/", "a/b", "a/b/c", "a/c", "aa", "ab", "b", "b/a", "b/a/x", "j/a", "p", "tmp/j/a", "zz", "~", strings.Repeat("q", 400), strings.Repeat("q", 399) + "r"}
	for sets := 1; sets <= 4; sets++ {
		s := shape{1, 1, sets}
		l, p := fresh(t, s)
		wantPaths(t, p, "")
		var left []string
		for i, path := range all {
			must(t, p, put(path, version("x", i), nil))
			switch i % 4 {
			case 0:
				must(t, p, drop(path, "x"))
				continue
			case 1:
				must(t, p, put(path, mark("x", i), nil))
			}
			left = append(left, path)
		}
		slices.Sort(left)
		prefixes := []string{"", " ", "\xff", "none", strings.Repeat("q", 401), strings.Repeat("q", 100000)}
		for _, path := range all {
			for _, n := range []int{1, 2, 3, len(path) - 1, len(path)} {
				prefixes = append(prefixes, path[:min(max(n, 0), len(path))], path+"/")
			}
		}
		for _, prefix := range prefixes {
			var wanted []string
			for _, path := range left {
				if strings.HasPrefix(path, prefix) {
					wanted = append(wanted, path)
				}
			}
			wantPaths(t, p, prefix, wanted...)
			step(t, "a prefix", p, l, paths(prefix), nil)
		}
	}
}

// TestPathsAreMany: of many objects, too, all are told, each once, over all sets.
func TestPathsAreMany(t *testing.T) {
	_, p := fresh(t, shape{1, 1, 4})
	var all, some []string
	for i := range 500 {
		path := fmt.Sprintf("%d/%d", i*7919%1000, i)
		must(t, p, put(path, mark("m", i), nil))
		if all = append(all, path); path[0] == '9' {
			some = append(some, path)
		}
	}
	slices.Sort(all)
	slices.Sort(some)
	wantPaths(t, p, "", all...)
	wantPaths(t, p, "9", some...)
}

// faults are what stands against lists of a set, by the error that is told.
func faults() map[api.Errno]func(l drives, places []int) {
	return map[api.Errno]func(l drives, places []int){
		api.OK:        func(l drives, places []int) {},
		api.ErrQuorum: func(l drives, places []int) { away(l, places...) },
		api.ErrBroken: func(l drives, places []int) { out(l, places[1]) },
	}
}

// TestListErrors: of sets that have an error the first one's is told, whatever the others have, with nothing beside it; nothing is healed then, in no set.
func TestListErrors(t *testing.T) {
	s := shape{1, 1, 3}
	start, _ := begun(t, s)
	for i, d := range start {
		// Each set has something to be healed.
		if i%2 == 0 {
			d.Delete("j/" + pathsOf(3, 2)[i/2][1])
		}
	}
	for one, first := range faults() {
		for two, second := range faults() {
			for three, third := range faults() {
				l := clones(start)
				p := opened(t, l, s)
				first(l, s.places(0))
				second(l, s.places(1))
				third(l, s.places(2))
				wanted := api.OK
				for _, err := range []api.Errno{three, two, one} {
					if err != api.OK {
						wanted = err
					}
				}
				was := clones(l)
				for _, c := range []call{paths(""), paths("none"), healAll()} {
					got := step(t, fmt.Sprint(one, two, three), p, l, c, nil)
					if wanted != api.OK && !sameAnswer(got, refused(wanted)) || wanted == api.OK && got.err != api.OK {
						t.Errorf("%d, %d, %d: %v: %v; want %v", one, two, three, c, got, wanted)
					}
				}
				if wanted != api.OK {
					wantDrives(t, fmt.Sprint(one, two, three), l, was)
				}
			}
		}
	}
}

// TestHealAll: all that drives lack is laid, in all sets, and all files are counted together; then there is nothing to do.
func TestHealAll(t *testing.T) {
	for _, s := range []shape{{1, 1, 1}, {2, 1, 2}, {1, 2, 3}, {2, 2, 4}} {
		start, p := begun(t, s)
		if n, err := p.HealAll(); n != 0 || err != api.OK {
			t.Errorf("%v: all is well: %d, %v", s, n, err)
		}
		for _, lost := range [][]int{{0}, {s.all() - 1}, {0, s.all() - 1}} {
			if lost[0]/s.each() == lost[len(lost)-1]/s.each() && len(lost) > s.m {
				continue
			}
			l := clones(start)
			for _, i := range lost {
				l[i] = blank(t)
			}
			p := opened(t, l, s)
			// Of each object two versions' files, and a journal; each set has two objects.
			if got := step(t, "lost", p, l, healAll(), nil); !sameAnswer(got, answer{n: 6 * len(lost)}) {
				t.Errorf("%v: %v are lost: %v", s, lost, got)
			}
			for i, d := range l {
				if got, wanted := namesOf(d), namesOf(start[i]); !slices.Equal(got, wanted) {
					t.Errorf("%v: %v are lost: drive %d has %q; want %q", s, lost, i, got, wanted)
				}
			}
			if got := step(t, "again", p, l, healAll(), nil); !sameAnswer(got, answer{}) {
				t.Errorf("%v: again: %v", s, got)
			}
		}
	}
}

// TestHealAllCounts: files of several objects of several sets, each turned or gone by hand.
func TestHealAllCounts(t *testing.T) {
	s := shape{2, 2, 2}
	start, _ := begun(t, s)
	paths := pathsOf(2, 2)
	l := clones(start)
	l[0].Turn("j/"+paths[0][0], 9, 1)
	l[1].Delete(shardName(paths[0][0], 10))
	l[2].Turn(shardName(paths[0][1], 22), 40, 2)
	l[4].Delete("j/" + paths[1][1])
	l[4].Delete(shardName(paths[1][1], 40))
	l[7].Turn(shardName(paths[1][0], 32), 0, 1)
	p := opened(t, l, s)
	if got := step(t, "six files", p, l, healAll(), nil); !sameAnswer(got, answer{n: 6}) {
		t.Errorf("six files: %v", got)
	}
	for i, d := range l {
		if got, wanted := filesOf(d), filesOf(start[i]); got["j/"+paths[i/4][0]] != wanted["j/"+paths[i/4][0]] || len(got) != len(wanted) {
			t.Errorf("drive %d has %s; want %s", i, shown(got), shown(wanted))
		}
	}
}

// TestHealAllOrder: set by set, path by path, rising: a fuse stops each change in turn, and what was laid till then is held against the model.
func TestHealAllOrder(t *testing.T) {
	for _, s := range []shape{{1, 1, 3}, {1, 2, 2}, {2, 1, 1}} {
		start, _ := begun(t, s)
		for set := range s.sets {
			start[s.places(set)[s.each()-1]] = blank(t)
		}
		opened(t, start, s)
		for _, places := range [][]int{s.everywhere(0).places, s.places(s.sets - 1), s.places(0)[1:]} {
			for n := 0; ; n++ {
				l := clones(start)
				got := step(t, "stopped", opened(t, l, s), l, healAll(), &fuse{places, n})
				if got.err == api.OK {
					if !sameAnswer(got, answer{n: 6 * s.sets}) {
						t.Errorf("%v: not stopped: %v", s, got)
					}
					break
				}
				if !sameAnswer(got, refused(api.ErrBroken)) {
					t.Errorf("%v: a fuse of %d on %v: %v", s, n, places, got)
				}
			}
		}
	}
}

// TestHealAllRising: by hand: the first set's first path is put right first, and the last set's last one last.
func TestHealAllRising(t *testing.T) {
	s := shape{1, 1, 2}
	start, _ := begun(t, s)
	var order []string
	for set, paths := range pathsOf(2, 2) {
		for _, path := range paths {
			start[s.places(set)[1]].Delete("j/" + path)
			order = append(order, path)
		}
	}
	for done := range len(order) + 1 {
		l := clones(start)
		p := opened(t, l, s)
		// Each file is three changes.
		f := s.everywhere(3 * done)
		got := step(t, "stopped", p, l, healAll(), f)
		want(t, f.String(), got.err, map[bool]api.Errno{true: api.OK, false: api.ErrBroken}[done == len(order)])
		for i, path := range order {
			if _, there := filesOf(l[s.places(i / 2)[1]])["j/"+path]; there != (i < done) {
				t.Errorf("%v: %q, of %q, is there: %v", f, path, order, there)
			}
		}
	}
}

// TestHealAllMissing: a path of which no drive has a journal that is read is passed over, also where it is the only one, and the others are healed.
func TestHealAllMissing(t *testing.T) {
	s := shape{1, 2, 3}
	start, _ := begun(t, s)
	for _, litter := range [][]byte{nil, []byte("none")} {
		for _, at := range choices(s.all()) {
			if len(at) > 2 {
				continue
			}
			l := clones(start)
			p := opened(t, l, s)
			for _, i := range at {
				raw(t, l[i], "j/!ahead", litter)
				raw(t, l[i], "j/~behind", litter)
			}
			l[8].Delete("j/" + pathsOf(3, 2)[2][1])
			if got := step(t, "litter", p, l, healAll(), nil); !sameAnswer(got, answer{n: 1}) {
				t.Errorf("%q on %v: %v", litter, at, got)
			}
			if got := step(t, "litter", p, l, paths(""), nil); len(got.paths) != 6 {
				t.Errorf("%q on %v: %v", litter, at, got)
			}
		}
	}
	l := made(t, s.all(), 1000)
	p := opened(t, l, s)
	for _, d := range l {
		raw(t, d, "j/a", []byte("none"))
	}
	if got := step(t, "litter alone", p, l, healAll(), nil); !sameAnswer(got, answer{}) {
		t.Errorf("litter alone: %v", got)
	}
}

// TestStray: a journal that stands on another set's drives than its path's is told of once, beside the path's own; HealAll heals each where it stands.
func TestStray(t *testing.T) {
	s := shape{1, 1, 2}
	l, p := fresh(t, s)
	path := pathsOf(2, 1)[0][0]
	must(t, p, put(path, version("x", 1), []byte("abc")))
	stray, _ := fresh(t, shape{1, 1, 1})
	must(t, opened(t, stray, shape{1, 1, 1}), put(path, version("y", 2), []byte("de")), put("zz", version("y", 3), nil))
	for _, name := range namesOf(stray[0]) {
		if strings.HasPrefix(name, "j/") || strings.HasPrefix(name, "s/") {
			raw(t, l[2], name, []byte(filesOf(stray[0])[name].b))
		}
	}
	wanted := []string{path, "zz"}
	if got := step(t, "stray", p, l, paths(""), nil); !slices.Equal(got.paths, wanted) {
		t.Errorf("stray: %v; want %q", got, wanted)
	}
	if got := step(t, "stray", p, l, healAll(), nil); !sameAnswer(got, answer{n: 4}) {
		t.Errorf("stray: %v", got)
	}
	reads(t, "beside a stray one", p, path, "", []byte("abc"))
}
