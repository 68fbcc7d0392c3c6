package fan_test

import (
	"bytes"
	"math"
	"math/rand"
	"slices"
	"strings"
	"testing"

	"stowage/api"
	"stowage/drive"
	"stowage/fan"
)

const maxDrives = 16

// wrongNames are such as no file may have.
var wrongNames = []string{"", " ", "a b", " a", "a ", "a\n", "\x00", "a\x00", "\x20", "\x7f", "a\x7fb", "\x80", "a\xff", "\x1f", "é", "a\tb",
	strings.Repeat("a", 513), strings.Repeat("a", 512) + " ", strings.Repeat("a", 1<<16)}

// rightNames are such as a file may have.
var rightNames = []string{"a", "!", "~", "!~", "tmp/", "tmp/a", "tmp/tmp/a", "tmp", "/", "a//b", "%00", strings.Repeat("n", 511), strings.Repeat("n", 512)}

func want(t *testing.T, what string, got, wanted api.Errno) {
	t.Helper()
	if got != wanted {
		t.Errorf("%s: %v; want %v", what, got, wanted)
	}
}

// wantRead asks for copies and an error.
func wantRead(t *testing.T, what string, l drives, name string, wanted []api.Copy, wantedErr api.Errno) {
	t.Helper()
	same := func(a, b api.Copy) bool { return a.Err == b.Err && bytes.Equal(a.B, b.B) }
	if got, err := fan.Read(l, name); !slices.EqualFunc(got, wanted, same) || err != wantedErr {
		t.Errorf("%s: Read(%.20q): %v, %v; want %v, %v", what, name, got, err, wanted, wantedErr)
	}
}

// wantNames asks for names and an error.
func wantNames(t *testing.T, what string, l drives, prefix string, wanted []string, wantedErr api.Errno) {
	t.Helper()
	if got, err := fan.Names(l, prefix); !slices.Equal(got, wanted) || err != wantedErr {
		t.Errorf("%s: Names(%.20q): %.100q, %v; want %.100q, %v", what, prefix, got, err, wanted, wantedErr)
	}
}

// wantDelete asks for how many were deleted, and an error.
func wantDelete(t *testing.T, what string, l drives, names []string, wanted int, wantedErr api.Errno) {
	t.Helper()
	if got, err := fan.Delete(l, names); got != wanted || err != wantedErr {
		t.Errorf("%s: Delete(%.60q): %d, %v; want %d, %v", what, names, got, err, wanted, wantedErr)
	}
}

// wantClean asks for how many were deleted, and an error.
func wantClean(t *testing.T, what string, l drives, prefix string, wanted int, wantedErr api.Errno) {
	t.Helper()
	if got, err := fan.Clean(l, prefix); got != wanted || err != wantedErr {
		t.Errorf("%s: Clean(%.20q): %d, %v; want %d, %v", what, prefix, got, err, wanted, wantedErr)
	}
}

// call is one of drives; the error comes with whether all beside it is zero.
type call struct {
	name string
	do   func(l drives) (bool, api.Errno)
}

func reading(name string) call {
	return call{"Read", func(l drives) (bool, api.Errno) { c, err := fan.Read(l, name); return len(c) == 0, err }}
}

func committing(what string, files func(n int) [][]api.File, need int) call {
	return call{"Commit " + what, func(l drives) (bool, api.Errno) {
		well, err := fan.Commit(l, files(len(l)), need)
		return len(well) == 0, err
	}}
}

func deleting(what string, names []string) call {
	return call{"Delete " + what, func(l drives) (bool, api.Errno) { n, err := fan.Delete(l, names); return n == 0, err }}
}

func cleaning(prefix string) call {
	return call{"Clean", func(l drives) (bool, api.Errno) { n, err := fan.Clean(l, prefix); return n == 0, err }}
}

func naming(prefix string) call {
	return call{"Names", func(l drives) (bool, api.Errno) { n, err := fan.Names(l, prefix); return len(n) == 0, err }}
}

// rightCalls are refused by nothing but their drives.
func rightCalls() []call {
	lists := func(n int) [][]api.File { return alike(n, of("a")) }
	return []call{reading("a"), committing("of a", lists, 1), deleting("a", []string{"a"}), deleting("nothing", nil), cleaning(""), naming("")}
}

// wrongCalls are refused whatever their drives are.
func wrongCalls() []call {
	of := func(list ...api.File) func(n int) [][]api.File {
		return func(n int) [][]api.File { return alike(n, list) }
	}
	a := of(api.File{Name: "a"})
	fewer := func(n int) [][]api.File { return alike(max(0, n-1), nil) }
	more := func(n int) [][]api.File { return alike(n+1, nil) }
	return []call{
		reading(""), reading("a b"), committing("of fewer lists", fewer, 1), committing("of more lists", more, 1),
		committing("with need 0", a, 0), committing("with a great need", a, 18), committing("of 9 files", of(make([]api.File, 9)...), 1),
		committing("of no name", of(api.File{}), 1), committing("of a staged name", of(api.File{Name: "tmp/a"}), 1),
		deleting("129 names", numbered(129)), deleting("a wrong name", []string{"a b"}),
	}
}

// nones are drives that nobody made.
func nones(t *testing.T) map[string]*drive.Drive {
	one := on("a").make(t)
	copied, cloned := *one, *one.Clone()
	return map[string]*drive.Drive{"nil": nil, "zero": {}, "a copy": &copied, "a clone's copy": &cloned}
}

// TestExamples are those of the chapter.
func TestExamples(t *testing.T) {
	three := func() drives {
		l, _ := makeAll(t, slices.Repeat([]box{on().sized(100)}, 3))
		return l
	}
	files := alike(3, []api.File{{Name: "a", B: []byte{1, 2}}})
	l := three()
	wantCommit(t, "all well", l, files, 2, []bool{true, true, true}, api.OK)
	for i, d := range l {
		if f := filesOf(d); len(f) != 1 || f["a"] != (file{b: "\x01\x02"}) {
			t.Errorf("drive %d has %s", i, shown(f))
		}
	}
	l = three()
	l[1].Offline(true)
	wantCommit(t, "one offline", l, files, 2, []bool{true, false, true}, api.OK)
	has := api.Copy{B: []byte{1, 2}}
	wantRead(t, "one offline", l, "a", []api.Copy{has, {Err: api.ErrOffline}, has}, api.OK)
	l = three()
	l[0].Offline(true)
	l[1].Offline(true)
	wantCommit(t, "two offline", l, files, 2, nil, api.ErrQuorum)
	wantNames(t, "two offline", l, "", nil, api.OK)
	if f := filesOf(l[2]); len(f) != 0 {
		t.Errorf("two offline: the third one has %s", shown(f))
	}
	l = three()
	drive.Fuse(l, 7)
	wantCommit(t, "a fuse of 7", l, files, 2, nil, api.ErrBroken)
	for i, d := range l {
		d.Crash(nil)
		wanted := []string{"a", "tmp/a", "tmp/a"}[i]
		wantNames(t, "a fuse of 7", drives{d}, "", []string{wanted}, api.OK)
	}
	wantNames(t, "a fuse of 7", l, "", []string{"a", "tmp/a"}, api.OK)
	wantCommit(t, "no list", l, nil, 2, nil, api.ErrArg)
	wantCommit(t, "a staged name", l, alike(3, of("tmp/a")), 2, nil, api.ErrName)
}

// TestHowMany: 1 to 16 drives are asked; no others, whatever else stands against the call.
func TestHowMany(t *testing.T) {
	for _, n := range []int{0, 1, 2, 15, 16, 17, 18, 32, 64, 65, 100} {
		for _, c := range rightCalls() {
			l, was := makeAll(t, slices.Repeat([]box{on("a", "tmp/b")}, n))
			zero, err := c.do(l)
			if n >= 1 && n <= maxDrives {
				want(t, c.name, err, api.OK)
				continue
			}
			want(t, c.name, err, api.ErrArg)
			if !zero {
				t.Errorf("%s of %d drives: something stands beside the error", c.name, n)
			}
			wantBoxes(t, c.name, l, was)
		}
		for _, c := range wrongCalls() {
			l, was := makeAll(t, slices.Repeat([]box{on("a", "tmp/b")}, n))
			zero, err := c.do(l)
			if !zero || err == api.OK || err == api.ErrNil || (n < 1 || n > maxDrives) && err != api.ErrArg {
				t.Errorf("%s of %d drives: %v, zero %v", c.name, n, err, zero)
			}
			wantBoxes(t, c.name, l, was)
		}
	}
	for _, c := range append(rightCalls(), wrongCalls()...) {
		_, err := c.do(nil)
		want(t, c.name+" of nil", err, api.ErrArg)
	}
}

// TestNone: ErrNil is ahead of all else, wherever the drive that is none stands, and nothing is done to the others.
func TestNone(t *testing.T) {
	for what, none := range nones(t) {
		for _, n := range []int{1, 2, 3, 15, 16, 17, 18, 65, 66} {
			for _, at := range []int{0, n / 2, n - 1} {
				for _, c := range append(rightCalls(), wrongCalls()...) {
					l, was := makeAll(t, slices.Repeat([]box{on("a", "tmp/b")}, n))
					others := slices.Delete(slices.Clone(l), at, at+1)
					l[at] = none
					zero, err := c.do(l)
					if !zero || err != api.ErrNil {
						t.Errorf("%s of %d drives, the one at %d %s: %v, zero %v", c.name, n, at, what, err, zero)
					}
					wantBoxes(t, c.name, others, was)
				}
			}
		}
	}
	for _, c := range append(rightCalls(), wrongCalls()...) {
		l, _ := makeAll(t, []box{on("a").broken(), on("a").away()})
		_, err := c.do(append(l, nil))
		want(t, c.name+" beside drives that do not answer", err, api.ErrNil)
		_, err = c.do(drives{nil, nil})
		want(t, c.name+" of nil drives", err, api.ErrNil)
	}
}

// TestNothingIsAskedAhead: that drives are looked at gives them no fuse, and takes none from them.
func TestNothingIsAskedAhead(t *testing.T) {
	for _, c := range append(rightCalls(), wrongCalls()...) {
		if strings.HasPrefix(c.name, "Commit of a") || c.name == "Delete a" || c.name == "Clean" {
			continue
		}
		l, _ := makeAll(t, []box{on(), on("a")})
		drive.Fuse(l, 1)
		c.do(l)
		want(t, c.name, l[0].Write("x", nil), api.OK)
		want(t, c.name, l[1].Write("x", nil), api.ErrBroken)
		l, _ = makeAll(t, []box{on(), on("a")})
		c.do(l)
		for i := range 40 {
			want(t, c.name, l[i%2].Write("x", nil), api.OK)
		}
	}
}

// TestRead: of each drive its error, and its bytes; one that is out breaks the call, wherever it stands.
func TestRead(t *testing.T) {
	for _, name := range rightNames {
		kinds := []box{on(name), on().holding(name, "loose", true), on().holding(name, "", false), on(), on("b"), on(name).away(), on().away(), on(name).filled()}
		for n := 1; n <= len(kinds); n++ {
			for range n {
				kinds = append(kinds[1:], kinds[0])
				l, was := makeAll(t, kinds[:n])
				wanted, _ := planRead(was, name)
				wantRead(t, "all kinds", l, name, wanted, api.OK)
				wantBoxes(t, "Read", l, was)
			}
		}
		for at := range kinds {
			for _, out := range []box{on(name).broken(), on().broken(), on(name).away().broken()} {
				l, was := makeAll(t, slices.Concat(kinds[:at], []box{out}, kinds[at:]))
				wantRead(t, "one is out", l, name, nil, api.ErrBroken)
				wantBoxes(t, "Read", l, was)
			}
		}
	}
}

// TestReadOfAll: drives that all are the same, of each kind.
func TestReadOfAll(t *testing.T) {
	for _, n := range []int{1, 3, 15, 16} {
		for err, b := range map[api.Errno]box{api.OK: on("a"), api.ErrMissing: on("b"), api.ErrOffline: on("a").away()} {
			l, _ := makeAll(t, slices.Repeat([]box{b}, n))
			one := api.Copy{Err: err}
			if err == api.OK {
				one.B = []byte("a")
			}
			wantRead(t, "all alike", l, "a", slices.Repeat([]api.Copy{one}, n), api.OK)
		}
	}
	l, _ := makeAll(t, []box{on("a"), on("a")})
	l[1].Turn("a", 0, 1)
	wantRead(t, "turned", l, "a", []api.Copy{{B: []byte("a")}, {B: []byte("`")}}, api.OK)
}

// TestReadNames: a name that may not be is refused ahead of whatever the drives answer.
func TestReadNames(t *testing.T) {
	for _, name := range wrongNames {
		for what, b := range map[string]box{"there": on("a"), "offline": on("a").away(), "out": on("a").broken()} {
			l, _ := makeAll(t, []box{on("a"), b})
			wantRead(t, what, l, name, nil, api.ErrName)
		}
	}
}

// TestNames: each name once, rising, whichever drives tell of it.
func TestNames(t *testing.T) {
	boxes := []box{on("b", "tmp/a", "a", "zz"), on("c", "a", "B").holding("ab", "x", true), on("hidden", "a").away(), on(), on("tmp/a", "a", "~", "!", "tmp/j/x").filled()}
	all := []string{"!", "B", "a", "ab", "b", "c", "tmp/a", "tmp/j/x", "zz", "~"}
	cases := map[string][]string{
		"": all, "a": {"a", "ab"}, "ab": {"ab"}, "abc": nil, "t": {"tmp/a", "tmp/j/x"}, "tmp/": {"tmp/a", "tmp/j/x"}, "tmp/j/": {"tmp/j/x"},
		"h": nil, "hidden": nil, "z": {"zz"}, " ": nil, "\x00": nil, "a ": nil, strings.Repeat("a", 513): nil, strings.Repeat("a", 1<<20): nil,
	}
	for range boxes {
		boxes = append(boxes[1:], boxes[0])
		l, was := makeAll(t, boxes)
		for prefix, wanted := range cases {
			wantNames(t, "some drives", l, prefix, wanted, api.OK)
		}
		wantBoxes(t, "Names", l, was)
	}
	for _, n := range []int{1, 2, 15, 16} {
		l, _ := makeAll(t, slices.Repeat([]box{on("b", "a", "tmp/a")}, n))
		wantNames(t, "all alike", l, "", []string{"a", "b", "tmp/a"}, api.OK)
		l, _ = makeAll(t, slices.Repeat([]box{on("b", "a", "tmp/a").away()}, n))
		wantNames(t, "all offline", l, "", nil, api.OK)
		l, _ = makeAll(t, slices.Repeat([]box{on()}, n))
		wantNames(t, "all empty", l, "", nil, api.OK)
		l, _ = makeAll(t, slices.Repeat([]box{on("a")}, n))
		for i := range n {
			l[i].Offline(i != n-1)
		}
		wantNames(t, "the last one alone", l, "", []string{"a"}, api.OK)
	}
}

// TestNamesOut: a drive that is out breaks the call, wherever it stands, and whatever it has.
func TestNamesOut(t *testing.T) {
	for at := range 4 {
		for _, out := range []box{on("a").broken(), on().broken(), on("a").away().broken()} {
			boxes := []box{on("a"), on("b").away(), on()}
			l, was := makeAll(t, slices.Insert(boxes, at, out))
			wantNames(t, "one is out", l, "", nil, api.ErrBroken)
			wantNames(t, "one is out", l, "none", nil, api.ErrBroken)
			wantBoxes(t, "Names", l, was)
		}
	}
}

// TestNamesOfMany: many files on many drives.
func TestNamesOfMany(t *testing.T) {
	r := rand.New(rand.NewSource(7))
	for range 20 {
		var boxes []box
		for range 1 + r.Intn(maxDrives) {
			b := on()
			for range r.Intn(60) {
				b = b.holding(strings.Repeat("q", 1+r.Intn(3))+string(rune('!'+r.Intn(90))), "", r.Intn(2) == 0)
			}
			boxes = append(boxes, b)
		}
		l, _ := makeAll(t, boxes)
		for _, prefix := range []string{"", "q", "qq", "qqq", "qqqq", "p"} {
			wanted, wantedErr := planNames(boxes, prefix)
			wantNames(t, "many", l, prefix, wanted, wantedErr)
		}
	}
}

// TestSameDriveTwice: a drive that stands twice among the drives is asked twice.
func TestSameDriveTwice(t *testing.T) {
	d := on("a", "tmp/b", "b").make(t)
	has := api.Copy{B: []byte("a")}
	wantRead(t, "twice", drives{d, d}, "a", []api.Copy{has, has}, api.OK)
	wantNames(t, "twice", drives{d, d}, "", []string{"a", "b", "tmp/b"}, api.OK)
	wantDelete(t, "twice", drives{d, d}, []string{"a"}, 1, api.OK)
	wantClean(t, "twice", drives{d, d}, "", 1, api.OK)
	wantNames(t, "twice", drives{d, d}, "", []string{"b"}, api.OK)
}

// TestCallsAgainstModel: calls that make no Commit, of drives drawn by chance, with a fuse and without.
func TestCallsAgainstModel(t *testing.T) {
	r := rand.New(rand.NewSource(10))
	for range 4000 {
		var boxes []box
		for range 1 + r.Intn(5) {
			boxes = append(boxes, drawnBox(r))
		}
		name := []string{"a", "b", "tmp/a", "x", "q"}[r.Intn(5)]
		prefix := []string{"", "a", "b", "t", "tmp/", "q"}[r.Intn(6)]
		l, was := makeAll(t, boxes)
		wanted, wantedErr := planRead(was, name)
		wantRead(t, "drawn", l, name, wanted, wantedErr)
		names, wantedErr := planNames(was, prefix)
		wantNames(t, "drawn", l, prefix, names, wantedErr)
		wantBoxes(t, "drawn", l, was)
		var some []string
		for range r.Intn(6) {
			some = append(some, []string{"a", "b", "ab", "tmp/a", "tmp/b", "x", "q"}[r.Intn(7)])
		}
		holdDelete(t, boxes, some, r.Intn(9)-1)
		holdClean(t, boxes, prefix, r.Intn(9)-1)
		holdFinish(t, boxes[0], some, r.Intn(5)-1)
	}
}

// counts are numbers at the edges of n.
func counts(n int) []int {
	return []int{math.MinInt, math.MinInt + 1, math.MinInt32, -n, -1, 0, 1, 2, n - 1, n, n + 1, maxDrives, maxDrives + 1, 1 << 32, 1<<32 + 1, math.MaxInt - 1, math.MaxInt}
}
