package pool_test

import (
	"bytes"
	"fmt"
	"math"
	"slices"
	"strings"
	"testing"

	"stowage/api"
	"stowage/pool"
	"stowage/shard"
)

// wrongPaths are texts that may not be paths.
func wrongPaths() []string {
	return []string{"", " ", "a b", "\x00", "a\n", "\x7f", "a\xff", "\x80", "ü", strings.Repeat("p", 401), strings.Repeat("p", 512), strings.Repeat("p", 5000), strings.Repeat("p", 399) + " ", " a", "a "}
}

// rightPaths are some that may be.
func rightPaths() []string {
	return []string{"a", "!", "~", "/", "-", "j/", "tmp/j/a", "format", "boot", "a/b//c", "..", "%", shardName("a", 1), strings.Repeat("p", 399), strings.Repeat("~", 400)}
}

// everyCall are all calls of a path, with all else right.
func everyCall(path string) []call {
	return []call{look(path), put(path, version("y", 99), []byte("y")), put(path, mark("y", 9), nil), get(path, ""), get(path, "x"), part(path, "x", 0, 1), drop(path, "x"), heal(path)}
}

// wrongCalls are all calls of a path, with all else wrong.
func wrongCalls(path string) []call {
	return []call{
		look(path), put(path, api.Record{}, make([]byte, 65537)), put(path, api.Record{ID: "A", Mark: true, Size: 1}, []byte("x")), get(path, "A"), get(path, strings.Repeat("x", 1000)),
		part(path, "A", -1, -2), part(path, "", math.MaxInt, math.MinInt), drop(path, ""), drop(path, "A b"), heal(path),
	}
}

// TestSize: what Open was given.
func TestSize(t *testing.T) {
	for _, s := range slices.Concat(someShapes(), greatShapes()) {
		l, p := fresh(t, s)
		wantSize(t, p, s)
		for i := range l {
			away(l, i)
			wantSize(t, p, s)
		}
	}
}

// TestNoPool: calls of a pool that Open did not make.
func TestNoPool(t *testing.T) {
	l, p := fresh(t, shape{2, 1, 2})
	must(t, p, put("a", version("x", 1), []byte("abc")))
	copied := *p
	was := clones(l)
	for what, none := range map[string]*pool.Pool{"nil": nil, "new": new(pool.Pool), "a copy": &copied} {
		calls := []call{paths(""), paths("a"), healAll()}
		for _, path := range []string{"a", "a b", "", strings.Repeat("p", 401)} {
			calls = slices.Concat(calls, everyCall(path), wrongCalls(path))
		}
		for _, c := range calls {
			if got := ask(none, c); !sameAnswer(got, refused(api.ErrNil)) {
				t.Errorf("%s: %v: %v", what, c, got)
			}
		}
		wantSize(t, none, shape{})
	}
	wantDrives(t, "no pool", l, was)
	reads(t, "behind all that", p, "a", "", []byte("abc"))
}

// TestWrongPaths: ErrName is told ahead of all else, of drives that are away or out, too.
func TestWrongPaths(t *testing.T) {
	for _, s := range []shape{{2, 1, 1}, {2, 1, 3}, {1, 1, 4}} {
		for _, state := range []string{"up", "offline", "out"} {
			l, p := fresh(t, s)
			switch state {
			case "offline":
				away(l, s.everywhere(0).places...)
			case "out":
				out(l, s.everywhere(0).places...)
			}
			was := clones(l)
			for _, path := range wrongPaths() {
				for _, c := range slices.Concat(everyCall(path), wrongCalls(path)) {
					if got := ask(p, c); !sameAnswer(got, refused(api.ErrName)) {
						t.Errorf("%s: %v: %v", state, c, got)
					}
				}
			}
			wantDrives(t, state, l, was)
		}
	}
}

// TestRightPaths: versions of paths that look like names of other files, also when all is opened anew.
func TestRightPaths(t *testing.T) {
	s := shape{2, 1, 2}
	l, p := fresh(t, s)
	for i, path := range rightPaths() {
		must(t, p, put(path, version("x", 1), text(i, i)), put(path, version("y", 2), text(i+1, i)))
	}
	for range 2 {
		for i, path := range rightPaths() {
			reads(t, "right", p, path, "x", text(i, i))
			reads(t, "right", p, path, "", text(i+1, i))
		}
		if got, err := p.Paths(""); err != api.OK || !slices.Equal(got, slices.Sorted(slices.Values(rightPaths()))) {
			t.Errorf("Paths: %.20q, %v", got, err)
		}
		p = opened(t, l, s)
	}
}

// TestOwnSet: what is laid of a path stands on all drives of its own set, and on no other one, for one set to four.
func TestOwnSet(t *testing.T) {
	for sets := 1; sets <= 4; sets++ {
		s := shape{1, 2, sets}
		l, p := fresh(t, s)
		own := make([][]string, sets)
		for i := range 60 * sets {
			path := fmt.Sprint("some/path/", i)
			set := setOf(path, sets)
			own[set] = append(own[set], "j/"+path, shardName(path, i))
			must(t, p, put(path, version("x", i), text(i, i)))
			for at, d := range l {
				// The format and the boot file were three changes each, as each object's two files are.
				if n := 6 + 3*len(own[at/s.each()]); d.Ops() != n {
					t.Errorf("%q, of set %d: drive %d made %d changes; want %d", path, set, at, d.Ops(), n)
				}
			}
		}
		for at, d := range l {
			wanted := append([]string{"boot", "format"}, own[at/s.each()]...)
			slices.Sort(wanted)
			if got := namesOf(d); !slices.Equal(got, wanted) || len(wanted) < 60 {
				t.Errorf("drive %d of %v has %q; want %q", at, s, got, wanted)
			}
		}
	}
}

// begun is a pool of which each set has two objects, with versions and marks; the numbers of the versions tell them apart.
func begun(t *testing.T, s shape) (drives, *pool.Pool) {
	t.Helper()
	l, p := fresh(t, s)
	for i, path := range slices.Concat(pathsOf(s.sets, 2)...) {
		n := 10 * (i + 1)
		must(t, p, put(path, version("x", n), text(n, n)), put(path, mark("m", n+1), nil), put(path, version("y", n+2), text(300+n, n)))
	}
	return l, p
}

// pathCalls are calls of all kinds of one path, that answer all that there is to answer.
func pathCalls(path string) []call {
	taken := version("new", 10)
	return []call{
		look(path), get(path, ""), get(path, "x"), get(path, "m"), get(path, "none"), part(path, "x", 2, 5), part(path, "", 0, 0), part(path, "y", 299, 999), part(path, "m", 0, 0),
		put(path, version("z", 500), []byte("abc")), put(path, version("x", 501), nil), put(path, mark("y", 502), nil), put(path, taken, nil), put(path, version("A", 1), nil),
		put(path, version("z", 503), make([]byte, 65537)), put(path, version("z", 504), make([]byte, 65536)), drop(path, "x"), drop(path, "m"), drop(path, "none"), heal(path),
	}
}

// disturbances are what may have become of drives.
func disturbances() map[string]func(l drives, places []int) {
	return map[string]func(l drives, places []int){
		"up":        func(l drives, places []int) {},
		"one away":  func(l drives, places []int) { away(l, places[0]) },
		"one there": func(l drives, places []int) { away(l, places[1:]...) },
		"all away":  func(l drives, places []int) { away(l, places...) },
		"full":      func(l drives, places []int) { l[places[1]].Full(true) },
		"one out":   func(l drives, places []int) { out(l, places[len(places)-1]) },
		"turned": func(l drives, places []int) {
			for i, name := range namesOf(l[places[0]]) {
				l[places[0]].Turn(name, i%30, 1)
			}
		},
		"lost": func(l drives, places []int) {
			for _, d := range some(l, places[1:]) {
				for _, name := range namesOf(d) {
					d.Delete(name)
				}
			}
		},
	}
}

// TestHandedOn: each call of each set answers what that set answers, and does to the drives what it does, whatever became of its own drives, and of the others'.
func TestHandedOn(t *testing.T) {
	for _, s := range []shape{{2, 1, 1}, {2, 1, 2}, {1, 2, 3}, {1, 1, 4}} {
		start, _ := begun(t, s)
		for what, disturb := range disturbances() {
			for set := range s.sets {
				t.Run(fmt.Sprintf("%v: set %d %s", s, set, what), func(t *testing.T) {
					t.Parallel()
					for at, paths := range pathsOf(s.sets, 3) {
						// Of the third one there is no object.
						for _, path := range paths[1:] {
							for _, c := range pathCalls(path) {
								l := clones(start)
								p := opened(t, l, s)
								disturb(l, s.places(set))
								got := step(t, path, p, l, c, nil)
								if at != set && (got.err == api.ErrQuorum || got.err == api.ErrBroken) {
									t.Errorf("of set %d: %v: %v", at, c, got)
								}
							}
						}
					}
				})
			}
		}
	}
}

// TestHandedOnStopped: likewise with a fuse of all drives, of its own, or of the others'.
func TestHandedOnStopped(t *testing.T) {
	s := shape{1, 1, 3}
	start, _ := begun(t, s)
	start[0].Turn("j/"+pathsOf(3, 2)[0][0], 5, 1)
	lit := [][]int{s.everywhere(0).places, {0}, s.places(0), s.places(1), slices.Concat(s.places(1), s.places(2))}
	for _, path := range []string{pathsOf(3, 2)[0][0], pathsOf(3, 2)[1][1]} {
		for _, c := range pathCalls(path) {
			for _, places := range lit {
				for n := range 14 {
					l := clones(start)
					p := opened(t, l, s)
					step(t, "stopped", p, l, c, &fuse{places, n})
				}
			}
		}
	}
}

// TestErrors: each error of a set is told, and of two the one that the set tells first.
func TestErrors(t *testing.T) {
	s := shape{2, 1, 2}
	path, other := pathsOf(2, 1)[0][0], pathsOf(2, 1)[1][0]
	seen := map[api.Errno]int{}
	wanted := func(what string, l drives, c call, err api.Errno) {
		t.Helper()
		l = clones(l)
		got := step(t, what, opened(t, l, s), l, c, nil)
		if got.err != err {
			t.Errorf("%s: %v: %v; want %v", what, c, got, err)
		}
		seen[got.err]++
	}
	l, p := fresh(t, s)
	must(t, p, put(path, version("x", 1), []byte("abc")), put(path, mark("m", 2), nil), put(other, version("x", 3), []byte("def")))
	wanted("too long, and a record that may not be", l, put(path, version("A", 1), make([]byte, 65537)), api.ErrLong)
	wanted("a record that may not be", l, put(path, version("A", 1), nil), api.ErrArg)
	wanted("its data is there", l, put(path, version("z", 1), nil), api.ErrThere)
	wanted("its data is there, of another path", l, put(path, version("z", 3), nil), api.OK)
	wanted("none of that ID", l, get(path, "z"), api.ErrMissing)
	wanted("no such object", l, drop("none", "x"), api.ErrMissing)
	wanted("no such object", l, heal("none"), api.ErrMissing)
	wanted("a mark", l, get(path, ""), api.ErrMark)
	wanted("a mark, out of range", l, part(path, "m", 5, 2), api.ErrMark)
	wanted("out of range", l, part(path, "x", 2, 4), api.ErrRange)
	full := clones(l)
	must(t, opened(t, full, s), manyPuts(path)...)
	wanted("as many versions as may be", full, put(path, version("z", 999), nil), api.ErrFull)
	bad := clones(l)
	laid, _ := shard.Lay([]byte("abd"), 2, 1)
	for i, at := range s.places(0) {
		raw(t, bad[at], shardName(path, 1), laid[i])
	}
	wanted("other shards", bad, get(path, "x"), api.ErrDigest)
	gone := clones(l)
	gone[0].Delete(shardName(path, 1))
	gone[1].Delete(shardName(path, 1))
	wanted("two shards are gone", gone, get(path, "x"), api.ErrQuorum)
	for _, err := range []api.Errno{api.OK, api.ErrArg, api.ErrLong, api.ErrRange, api.ErrMissing, api.ErrThere, api.ErrFull, api.ErrQuorum, api.ErrDigest, api.ErrMark} {
		if seen[err] == 0 {
			t.Errorf("no call answered %v", err)
		}
	}
}

// manyPuts lay versions till an object that has two has as many as may be.
func manyPuts(path string) []call {
	var all []call
	for i := range api.MaxVersions - 2 {
		all = append(all, put(path, version(fmt.Sprint("v", i), 100+i), nil))
	}
	return all
}

// TestMarkIsTold: the record is told beside ErrMark.
func TestMarkIsTold(t *testing.T) {
	_, p := fresh(t, shape{1, 1, 3})
	for _, path := range slices.Concat(pathsOf(3, 2)...) {
		must(t, p, put(path, mark("m", 7), nil))
		for _, c := range []call{get(path, ""), get(path, "m"), part(path, "m", 3, 1)} {
			if got := ask(p, c); !sameAnswer(got, answer{r: mark("m", 7), err: api.ErrMark}) {
				t.Errorf("%v: %v", c, got)
			}
		}
	}
}

// TestPutFills: what is told of a version says of how many shards it is, in whichever set.
func TestPutFills(t *testing.T) {
	for _, s := range append(someShapes(), shape{8, 8, 4}) {
		l, p := fresh(t, s)
		for i, path := range slices.Concat(pathsOf(s.sets, 2)...) {
			b := text(70*i, i)
			wanted := whole(version("x", i), b, s)
			if got := step(t, "Put", p, l, put(path, version("x", i), b), nil); !sameAnswer(got, answer{r: wanted}) {
				t.Errorf("%v: %q: %v; want %v", s, path, got, wanted)
			}
			if got := ask(p, part(path, "", len(b)/3, len(b)/2)); !sameAnswer(got, answer{r: wanted, b: b[len(b)/3 : len(b)/2]}) {
				t.Errorf("%v: Part of %q: %v", s, path, got)
			}
			if got := ask(p, drop(path, "x")); !sameAnswer(got, answer{r: wanted}) {
				t.Errorf("%v: Drop of %q: %v", s, path, got)
			}
			_, _, err := p.Get(path, "")
			want(t, "Get behind Drop", err, api.ErrMissing)
		}
	}
}

// TestVeryDrives: a pool's calls are calls of the drives that it was opened with, whatever becomes of the list.
func TestVeryDrives(t *testing.T) {
	s := shape{2, 1, 2}
	l := made(t, s.all(), 1<<20)
	handed := slices.Clone(l)
	p := opened(t, handed, s)
	clear(handed)
	for i, paths := range pathsOf(2, 2) {
		must(t, p, put(paths[0], version("x", i), []byte("abc")))
		away(l, s.places(i)[:2]...)
		_, err := p.Look(paths[0])
		want(t, "two are away", err, api.ErrQuorum)
		back(l)
	}
	if got, err := p.Paths(""); len(got) != 2 || err != api.OK {
		t.Errorf("Paths: %q, %v", got, err)
	}
}

// TestExamples: the chapter's.
func TestExamples(t *testing.T) {
	s := shape{1, 1, 2}
	l, p := fresh(t, s)
	wantSize(t, p, s)
	if names, err := l[0].List(""); !slices.Equal(names, []string{"boot", "format"}) || err != api.OK {
		t.Errorf("the first drive: %q, %v", names, err)
	}
	r := version("null", 1)
	must(t, p, put("a", r, []byte("abc")), put("b", r, []byte("de")))
	wantPaths(t, p, "", "a", "b")
	wantPaths(t, p, "b", "b")
	p = opened(t, l, s)
	reads(t, "opened anew", p, "a", "", []byte("abc"))
	wantOpen(t, "exchanged", drives{l[1], l[0], l[2], l[3]}, s, api.ErrState)
	wantOpen(t, "three drives", l[:3], s, api.ErrArg)
	for set := range 2 {
		away(l, s.places(set)...)
		wantOpen(t, "both drives of a set offline", l, s, api.ErrQuorum)
		back(l)
	}
	away(l, s.places(setOf("a", 2))[1])
	_, err := p.Put("a", version("null", 2), []byte("x"))
	want(t, "one drive offline", err, api.ErrQuorum)
	back(l)
	away(l, 0, 2)
	reads(t, "both sets' first drives offline", p, "a", "", []byte("abc"))
}

// TestRecordsOfBytes: bytes of all sizes there and back, in each set.
func TestRecordsOfBytes(t *testing.T) {
	s := shape{3, 2, 2}
	l, p := fresh(t, s)
	for i, n := range []int{0, 1, 2, 3, 255, 256, 257, 768, 769, 65535, 65536} {
		for set, paths := range pathsOf(2, 1) {
			b := text(n, i+set)
			must(t, p, put(paths[0], version("x", 2*i+set), b))
			reads(t, "laid", p, paths[0], "", b)
			away(l, s.places(set)[1], s.places(set)[3])
			if _, got, err := p.Get(paths[0], "x"); err != api.OK || !bytes.Equal(got, b) {
				t.Errorf("%d bytes with two away: %v", n, err)
			}
			back(l)
		}
	}
}
