package erasure_test

import (
	"fmt"
	"math"
	"slices"
	"strings"
	"testing"

	"stowage/api"
	"stowage/drive"
	"stowage/erasure"
)

// someCounts are numbers that are a count of data shards of n drives, and some that are none.
func someCounts(n int) []int {
	return []int{math.MinInt, math.MinInt32, -1<<32 + 1, -2, -1, 0, 1, 2, n / 2, n - 2, n - 1, n, n + 1, 16, 17, 1<<8 + 1, 1<<32 + 1, math.MaxInt32, math.MaxInt}
}

// wantNew asks for a set, or for an error and none.
func wantNew(t *testing.T, what string, l drives, k int, wanted api.Errno) {
	t.Helper()
	s, err := erasure.New(l, k)
	if err != wanted || (s != nil) != (wanted == api.OK) {
		t.Errorf("%s: New(%d drives, %d): %v, %v; want %v", what, len(l), k, s != nil, err, wanted)
	}
}

// TestNew: a set has 2 to 16 drives, k being from 1 to one less (P12.1).
func TestNew(t *testing.T) {
	for n := range 20 {
		l := made(t, n, 10)
		for _, k := range someCounts(n) {
			if n >= 2 && n <= 16 && k >= 1 && k <= n-1 {
				wantNew(t, "they may be", l, k, api.OK)
				s, _ := erasure.New(l, k)
				if data, parity := s.Size(); data != k || parity != n-k {
					t.Errorf("New(%d drives, %d): Size %d, %d", n, k, data, parity)
				}
				continue
			}
			wantNew(t, "they may not be", l, k, api.ErrArg)
		}
	}
	wantNew(t, "no list", nil, 1, api.ErrArg)
	wantNew(t, "far too many", made(t, 300, 10), 1, api.ErrArg)
}

// TestNewOfNone: a drive that is none is told ahead of all else.
func TestNewOfNone(t *testing.T) {
	for _, n := range []int{1, 2, 3, 16, 17, 100} {
		l := made(t, n, 10)
		copied := *l[0]
		for what, none := range map[string]*drive.Drive{"nil": nil, "new": new(drive.Drive), "a copy": &copied} {
			for at := range n {
				with := slices.Clone(l)
				with[at] = none
				for _, k := range someCounts(n) {
					wantNew(t, what, with, k, api.ErrNil)
				}
			}
		}
	}
}

// TestNewDoesNothing: drives that are out, offline or full make a set, too, and nothing is asked of them.
func TestNewDoesNothing(t *testing.T) {
	l := made(t, 3, 100)
	raw(t, l[0], "a", []byte("x"))
	drive.Fuse(l[:1], 0)
	want(t, "the fuse", l[0].Delete("a"), api.ErrBroken)
	l[1].Offline(true)
	l[2].Full(true)
	was := clones(l)
	wantNew(t, "drives that do not answer", l, 2, api.OK)
	wantDrives(t, "New", l, was)
}

// TestVeryDrives: a set's calls are calls of the drives that it was made of, whatever becomes of the list; two sets of them are as one.
func TestVeryDrives(t *testing.T) {
	l, s := fresh(t, 3, 2)
	other := set(t, l, 2)
	handed := slices.Clone(l)
	third := set(t, handed, 2)
	clear(handed)
	must(t, s, put("a", version("x", 1), []byte("abc")))
	reads(t, "another set of them", other, "a", "x", []byte("abc"))
	reads(t, "one whose list was cleared", third, "a", "x", []byte("abc"))
	away(l, 0, 1)
	for _, each := range []*erasure.Set{s, other, third} {
		_, err := each.Look("a")
		want(t, "two are away", err, api.ErrQuorum)
	}
}

// wrongPaths are texts that may not be paths.
func wrongPaths() []string {
	return []string{"", " ", "a b", "\x00", "a\n", "\x7f", "a\xff", "\x80", "ü", strings.Repeat("p", 401), strings.Repeat("p", 512), strings.Repeat("p", 5000), strings.Repeat("p", 399) + " ", " a", "a "}
}

// rightPaths are some that may be.
func rightPaths() []string {
	return []string{"a", "!", "~", "/", "-", "j/", "tmp/j/a", "a/b//c", "..", "%", "a-00000000000000000000000000000001", strings.Repeat("p", 399), strings.Repeat("~", 400)}
}

// TestPath: 1 to 400 bytes, each from 33 to 126.
func TestPath(t *testing.T) {
	for n := range 1000 {
		if got, wanted := erasure.Path(strings.Repeat("a", n)), n >= 1 && n <= 400; got != wanted {
			t.Errorf("Path of %d bytes: %v", n, got)
		}
	}
	for b := range 256 {
		one, wanted := string([]byte{byte(b)}), b >= 33 && b <= 126
		for _, s := range []string{one, "a" + one, one + "a", "a" + one + "a", strings.Repeat("a", 399) + one, one + strings.Repeat("a", 399), strings.Repeat("a", 200) + one + strings.Repeat("a", 199)} {
			if got := erasure.Path(s); got != wanted {
				t.Errorf("Path(%.10q), with the byte %d: %v", s, b, got)
			}
		}
		if erasure.Path(strings.Repeat("a", 400) + one) {
			t.Errorf("Path of 400 bytes and the byte %d", b)
		}
	}
	for _, s := range rightPaths() {
		if !erasure.Path(s) {
			t.Errorf("Path(%.20q) is false", s)
		}
	}
	for _, s := range wrongPaths() {
		if erasure.Path(s) {
			t.Errorf("Path(%.20q) is true", s)
		}
	}
}

// everyCall are all calls of a path, with all else right.
func everyCall(path string) []call {
	return []call{look(path), put(path, version("y", 99), []byte("y")), put(path, mark("y", 9), nil), get(path, ""), get(path, "x"), part(path, "x", 0, 1), drop(path, "x"), heal(path)}
}

// wrongCalls are all calls of a path, with all else wrong.
func wrongCalls(path string) []call {
	return []call{
		look(path), put(path, api.Record{}, make([]byte, 65537)), put(path, api.Record{ID: "A", Mark: true, Size: 1}, []byte("x")), get(path, "A"), get(path, strings.Repeat("x", 1000)),
		part(path, "A", -1, -2), part(path, "", math.MaxInt, math.MinInt), drop(path, ""), drop(path, "A b"), heal(path),
	}
}

// TestNoSet: calls of a set that New did not make.
func TestNoSet(t *testing.T) {
	l, s := fresh(t, 3, 2)
	must(t, s, put("a", version("x", 1), []byte("abc")))
	copied := *s
	was := clones(l)
	for what, none := range map[string]*erasure.Set{"nil": nil, "new": new(erasure.Set), "a copy": &copied} {
		var calls []call
		for _, path := range []string{"a", "a b", "", strings.Repeat("p", 401)} {
			calls = slices.Concat(calls, everyCall(path), wrongCalls(path))
		}
		for _, c := range append(calls, recovers(), allPaths(), withVersions()) {
			if got := ask(none, c); !sameAnswer(got, answer{err: api.ErrNil}) {
				t.Errorf("%s: %v: %v", what, c, got)
			}
		}
		if k, m := none.Size(); k != 0 || m != 0 {
			t.Errorf("%s: Size: %d, %d", what, k, m)
		}
	}
	wantDrives(t, "no set", l, was)
	reads(t, "behind all that", s, "a", "", []byte("abc"))
}

// TestWrongPaths: ErrName is told ahead of all else, of drives that are out, too.
func TestWrongPaths(t *testing.T) {
	for _, state := range []string{"up", "offline", "out"} {
		l, s := fresh(t, 3, 2)
		must(t, s, put("a", version("x", 1), []byte("abc")))
		switch state {
		case "offline":
			away(l, 0, 1, 2)
		case "out":
			drive.Fuse(l, 0)
			l[0].Delete("j/a")
		}
		was := clones(l)
		for _, path := range wrongPaths() {
			for _, c := range slices.Concat(everyCall(path), wrongCalls(path)) {
				if got := ask(s, c); !sameAnswer(got, answer{err: api.ErrName}) {
					t.Errorf("%s: %v: %v", state, c, got)
				}
			}
		}
		wantDrives(t, state, l, was)
	}
}

// TestRightPaths: versions of paths that look like names of other files.
func TestRightPaths(t *testing.T) {
	l, s := fresh(t, 4, 2)
	for i, path := range rightPaths() {
		must(t, s, put(path, version("x", 1), text(i, i)), put(path, version("y", 2), text(i+1, i)))
	}
	check := func(what string) {
		t.Helper()
		for i, path := range rightPaths() {
			reads(t, what, s, path, "x", text(i, i))
			reads(t, what, s, path, "", text(i+1, i))
		}
		if got, err := s.Paths(); err != api.OK || !slices.Equal(got, slices.Sorted(slices.Values(rightPaths()))) {
			t.Errorf("%s: Paths: %.20q, %v", what, got, err)
		}
	}
	check("laid")
	must(t, s, recovers())
	check("recovered")
	for i := range 2 {
		l[i] = made(t, 1, 1<<20)[0]
	}
	s = set(t, l, 2)
	check("two drives are empty")
	for _, path := range rightPaths() {
		if n, err := s.Heal(path); n != 0 || err != api.OK {
			t.Errorf("Heal(%.20q): %d, %v: all was put right by reading", path, n, err)
		}
	}
}

// TestOut: a drive that is out breaks each call, at each place, whatever the others are; nothing is changed.
func TestOut(t *testing.T) {
	for at := range 3 {
		for _, others := range [][]int{nil, {(at + 1) % 3}, {(at + 1) % 3, (at + 2) % 3}, {0, 1, 2}} {
			l, s := fresh(t, 3, 2)
			must(t, s, put("a", version("x", 1), []byte("abc")))
			drive.Fuse(l[at:at+1], 0)
			want(t, "the fuse", l[at].Delete("j/a"), api.ErrBroken)
			away(l, others...)
			was := clones(l)
			for _, c := range append(slices.Concat(everyCall("a"), everyCall("b")), recovers(), allPaths(), withVersions()) {
				if got := step(t, "one is out", s, l, c, noFuse); !sameAnswer(got, answer{err: api.ErrBroken}) {
					t.Errorf("drive %d is out, %v away: %v: %v", at, others, c, got)
				}
			}
			wantDrives(t, "one is out", l, was)
		}
	}
}

// TestErrors: which of two errors is told first, as the chapter orders them; and that nothing is changed.
func TestErrors(t *testing.T) {
	long := make([]byte, 65537)
	wrong := version("A", 1)
	cases := []struct {
		what   string
		c      call
		wanted api.Errno
	}{
		{"too long, a record that may not be, too few drives", put("few", wrong, long), api.ErrLong},
		{"too long, a mark", put("few", mark("x", 1), long), api.ErrLong},
		{"a mark with bytes, too few drives", put("few", mark("x", 1), []byte("x")), api.ErrArg},
		{"a record that may not be, too few drives", put("few", wrong, nil), api.ErrArg},
		{"too few drives, the data is there", put("few", version("y", 1), nil), api.ErrQuorum},
	}
	for _, out := range []bool{false, true} {
		l, s := fresh(t, 3, 2)
		must(t, s, put("few", version("x", 1), []byte("abc")))
		away(l, 0, 1)
		for _, c := range cases {
			wanted := c.wanted
			if out && wanted == api.ErrQuorum {
				wanted = api.ErrBroken
			}
			if out {
				drive.Fuse(l[2:], 0)
				l[2].Delete("j/few")
			}
			if got := step(t, c.what, s, l, c.c, noFuse); !sameAnswer(got, answer{err: wanted}) {
				t.Errorf("%s: %v; want %v", c.what, got, wanted)
			}
		}
	}
	l, s := fresh(t, 3, 2)
	for i := range 64 {
		must(t, s, put("full", version(fmt.Sprint("v", i), i), nil))
	}
	must(t, s, put("marked", mark("m", 1), nil), put("marked", version("x", 5), []byte("abc")))
	l[0].Full(true)
	cases = []struct {
		what   string
		c      call
		wanted api.Errno
	}{
		{"the data is there, the journal is full, no quorum", put("full", version("new", 63), nil), api.ErrThere},
		{"the journal is full, no quorum", put("full", version("new", 99), nil), api.ErrFull},
		{"a mark is one too many, too", put("full", mark("new", 1), nil), api.ErrFull},
		{"no quorum", put("full", version("v3", 99), nil), api.ErrQuorum},
		{"no quorum of a mark", put("full", mark("v3", 1), nil), api.ErrQuorum},
		{"no quorum of a Drop", drop("full", "v3"), api.ErrQuorum},
		{"none of that ID, no quorum", drop("full", "new"), api.ErrMissing},
		{"no ID is none's", drop("full", ""), api.ErrMissing},
		{"no journal, no quorum", drop("none", "v3"), api.ErrMissing},
		{"no version, out of range", part("full", "new", -1, 5), api.ErrMissing},
		{"no journal, out of range", part("none", "", -1, 5), api.ErrMissing},
		{"out of range", part("marked", "x", 2, 4), api.ErrRange},
	}
	for _, c := range cases {
		if got := step(t, c.what, s, l, c.c, noFuse); !sameAnswer(got, answer{err: c.wanted}) {
			t.Errorf("%s: %v; want %v", c.what, got, c.wanted)
		}
	}
	got := step(t, "a mark, out of range", s, l, part("marked", "m", -1, 5), noFuse)
	if !sameAnswer(got, answer{r: mark("m", 1), err: api.ErrMark}) {
		t.Errorf("a mark, out of range: %v", got)
	}
	// With fewer than k drives nothing is told of whether there is a version, a mark or a range.
	away(l, 0, 1)
	for _, c := range []call{look("none"), get("none", ""), get("marked", "m"), part("marked", "x", 2, 4), drop("marked", "none"), heal("none"), allPaths(), withVersions(), recovers()} {
		if got := step(t, "few drives", s, l, c, noFuse); !sameAnswer(got, answer{err: api.ErrQuorum}) {
			t.Errorf("few drives: %v: %v", c, got)
		}
	}
}

// TestRangeAndShards: a range that may not be is told ahead of shards that are too few, as of shard.Part.
func TestRangeAndShards(t *testing.T) {
	l, s := fresh(t, 3, 2)
	must(t, s, put("a", version("x", 1), []byte("abc")))
	for _, d := range l[:2] {
		d.Delete("s/a-" + version("x", 1).Data)
	}
	for _, c := range []struct {
		c      call
		wanted api.Errno
	}{{part("a", "", 0, 4), api.ErrRange}, {part("a", "", 0, 3), api.ErrQuorum}, {get("a", ""), api.ErrQuorum}, {part("a", "", 1, 1), api.ErrQuorum}} {
		if got := step(t, "two shards are gone", s, l, c.c, noFuse); !sameAnswer(got, answer{err: c.wanted}) {
			t.Errorf("%v: %v; want %v", c.c, got, c.wanted)
		}
	}
}

// TestExamples: the chapter's.
func TestExamples(t *testing.T) {
	l, s := fresh(t, 3, 2)
	r := version("null", 1)
	must(t, s, put("a", r, []byte("abc")))
	reads(t, "the newest one", s, "a", "", []byte("abc"))
	_, _, err := s.Get("a", "x")
	want(t, "Get(a, x)", err, api.ErrMissing)
	away(l, 0)
	reads(t, "the first drive offline", s, "a", "", []byte("abc"))
	away(l, 1)
	_, _, err = s.Get("a", "")
	want(t, "two offline", err, api.ErrQuorum)
	l[1].Offline(false)
	_, err = s.Put("a", version("null", 2), []byte("de"))
	want(t, "one offline: Put", err, api.ErrQuorum)
	reads(t, "one offline", s, "a", "", []byte("abc"))
	back(l)
	reads(t, "back online", s, "a", "", []byte("abc"))
	if n, err := s.Heal("a"); n != 0 || err != api.OK {
		t.Errorf("Heal: %d, %v", n, err)
	}
	was := clones(l)
	want(t, "Turn", l[0].Turn("s/a-"+r.Data, 33, 4), api.OK)
	reads(t, "a byte turned", s, "a", "", []byte("abc"))
	wantFiles(t, "a byte turned", l, was)
	must(t, s, put("a", mark("null", 2), nil))
	told, b, err := s.Get("a", "")
	if len(b) != 0 || err != api.ErrMark || !sameAnswer(answer{r: told}, answer{r: mark("null", 2)}) {
		t.Errorf("Get of a mark: %v, %q, %v", told, b, err)
	}
	must(t, s, drop("a", "null"))
	_, _, err = s.Get("a", "")
	want(t, "Get of nothing", err, api.ErrMissing)
	if l, err := s.Paths(); len(l) != 0 || err != api.OK {
		t.Errorf("Paths: %q, %v", l, err)
	}
	wantNew(t, "one drive", l[:1], 1, api.ErrArg)
	_, err = s.Put("a b", r, nil)
	want(t, "the path a b", err, api.ErrName)
}
