package drive_test

import (
	"bytes"
	"fmt"
	"maps"
	"math"
	"math/rand"
	"reflect"
	"slices"
	"sort"
	"strings"
	"testing"

	"stowage/api"
	"stowage/drive"
)

type drives = []*drive.Drive

// wrongNames are such as no file may have.
var wrongNames = []string{"", " ", "a b", " a", "a ", "a\n", "\x00", "a\x00", "\x7f", "\x80", "a\xff", "\x1f", "é", "a\tb",
	strings.Repeat("a", 513), strings.Repeat("a", 512) + " ", strings.Repeat("a", 1<<16)}

var long = strings.Repeat("n", 512)

func made(t *testing.T, size int) *drive.Drive {
	t.Helper()
	d, err := drive.New(size)
	if err != api.OK || d == nil {
		t.Fatalf("New(%d): %v, %v", size, d, err)
	}
	return d
}

func want(t *testing.T, what string, got, wanted api.Errno) {
	t.Helper()
	if got != wanted {
		t.Errorf("%s: %v, wanted %v", what, got, wanted)
	}
}

// wantRead: no bytes stand beside an error.
func wantRead(t *testing.T, d *drive.Drive, name, wanted string, wantedErr api.Errno) {
	t.Helper()
	if b, err := d.Read(name); string(b) != wanted || err != wantedErr {
		t.Errorf("Read(%.20q): %q, %v, wanted %q, %v", name, b, err, wanted, wantedErr)
	}
}

func wantList(t *testing.T, d *drive.Drive, prefix string, wanted ...string) {
	t.Helper()
	if l, err := d.List(prefix); !slices.Equal(l, wanted) || err != api.OK {
		t.Errorf("List(%.20q): %.100q, %v, wanted %.100q", prefix, l, err, wanted)
	}
}

func wantLoose(t *testing.T, d *drive.Drive, wanted ...string) {
	t.Helper()
	if l := d.Loose(); !slices.Equal(l, wanted) {
		t.Errorf("Loose: %.100q, wanted %.100q", l, wanted)
	}
}

// wantCounts: Used, Ops and Up.
func wantCounts(t *testing.T, what string, d *drive.Drive, used, ops int, up bool) {
	t.Helper()
	if d.Used() != used || d.Ops() != ops || d.Up() != up {
		t.Errorf("%s: %d bytes, %d changes, up %v, wanted %d, %d, %v", what, d.Used(), d.Ops(), d.Up(), used, ops, up)
	}
}

func breakOut(t *testing.T, d *drive.Drive) {
	t.Helper()
	want(t, "Fuse of none", drive.Fuse(drives{d}, 0), api.OK)
	size := d.Used()
	d.Offline(false)
	want(t, "Delete of what is there", d.Delete(firstOf(d)), api.ErrBroken)
	if d.Used() != size || d.Up() {
		t.Error("the drive is not out")
	}
}

func firstOf(d *drive.Drive) string {
	l, _ := d.List("")
	return l[0]
}

// stand is all that can be told of a drive, but for its size and its fuse.
type stand struct {
	files              map[string]string
	loose              []string
	used, ops          int
	up                 bool
	out, offline, full bool
}

// standOf looks at clones, as what a drive that does not answer has is not told by itself.
func standOf(d *drive.Drive) stand {
	s := stand{files: map[string]string{}, loose: append([]string{}, d.Loose()...), used: d.Used(), ops: d.Ops(), up: d.Up()}
	c := d.Clone()
	c.Offline(false)
	s.out = !c.Up()
	c = d.Clone()
	c.Crash(slices.Repeat([]bool{true}, len(s.loose)))
	s.offline = !c.Up()
	c.Offline(false)
	l, _ := c.List("")
	for _, name := range l {
		b, _ := c.Read(name)
		s.files[name] = string(b)
	}
	s.full = c.Write("probe", nil) == api.ErrFull
	return s
}

func wantStand(t *testing.T, what string, d *drive.Drive, wanted stand) {
	t.Helper()
	if got := standOf(d); !reflect.DeepEqual(got, wanted) {
		t.Errorf("%s: %s, wanted %s", what, got, wanted)
	}
}

// String tells the beginning of it: files may have many bytes.
func (s stand) String() string {
	return fmt.Sprintf("files %.300q, loose %.100q, %d bytes, %d changes, up %v, out %v, offline %v, full %v",
		fmt.Sprintf("%q", s.files), fmt.Sprintf("%q", s.loose), s.used, s.ops, s.up, s.out, s.offline, s.full)
}

// sample is a drive of 10 bytes with four of them synced as a, and two loose as b.
func sample(t *testing.T) *drive.Drive {
	t.Helper()
	d := made(t, 10)
	want(t, "Write(a)", d.Write("a", []byte("abcd")), api.OK)
	want(t, "Sync(a)", d.Sync("a"), api.OK)
	want(t, "Write(b)", d.Write("b", []byte("ef")), api.OK)
	return d
}

func sampleStand() stand {
	return stand{files: map[string]string{"a": "abcd", "b": "ef"}, loose: []string{"b"}, used: 6, ops: 3, up: true}
}

// state is how a drive may be, all at once.
type state struct{ out, offline, full bool }

func states() []state {
	var l []state
	for i := range 8 {
		l = append(l, state{i&1 != 0, i&2 != 0, i&4 != 0})
	}
	return l
}

// lay makes a drive be so.
func (s state) lay(t *testing.T, d *drive.Drive) {
	t.Helper()
	if s.out {
		breakOut(t, d)
	}
	want(t, "Offline", d.Offline(s.offline), api.OK)
	want(t, "Full", d.Full(s.full), api.OK)
}

func (s state) sampleStand() stand {
	wanted := sampleStand()
	wanted.out, wanted.offline, wanted.full = s.out, s.offline, s.full
	wanted.up = !s.out && !s.offline
	return wanted
}

// P6.1

func TestNameLengths(t *testing.T) {
	for _, c := range []struct {
		length int
		wanted bool
	}{{0, false}, {1, true}, {2, true}, {511, true}, {512, true}, {513, false}, {514, false}, {1024, false}, {1 << 20, false}} {
		for _, b := range []string{"!", "a", "/", "~"} {
			if got := drive.Name(strings.Repeat(b, c.length)); got != c.wanted {
				t.Errorf("%d times %s: %v", c.length, b, got)
			}
		}
	}
}

// TestNameBytes: each byte, alone and at places of texts of all lengths that may be and may not be.
func TestNameBytes(t *testing.T) {
	for c := range 256 {
		may := c >= 33 && c <= 126
		for _, length := range []int{1, 2, 3, 511, 512, 513} {
			for _, at := range []int{0, length / 2, length - 1} {
				b := bytes.Repeat([]byte{'a'}, length)
				b[at] = byte(c)
				if got := drive.Name(string(b)); got != (may && length <= 512) {
					t.Errorf("the byte %d at %d of %d: %v", c, at, length, got)
				}
			}
		}
	}
}

func TestNameOfMany(t *testing.T) {
	for _, name := range wrongNames {
		if drive.Name(name) {
			t.Errorf("%.30q may be", name)
		}
	}
	for _, name := range []string{"a", "boot", "format", "tmp/j/a", "j/logs/a", "s/00", "..", "/", "//", "!\"#$%&'()*+,-./:;<=>?@[\\]^_`{|}~", long} {
		if !drive.Name(name) {
			t.Errorf("%.30q may not be", name)
		}
	}
}

func TestNewSizes(t *testing.T) {
	for _, size := range []int{1, 2, 255, 65536, 1<<26 - 1, 1 << 26} {
		d := made(t, size)
		wantStand(t, fmt.Sprint("a new one of ", size), d, stand{files: map[string]string{}, loose: []string{}, up: true})
		wantList(t, d, "")
		want(t, "one byte more", d.Write("a", make([]byte, size+1)), api.ErrFull)
		want(t, "its size", d.Write("a", make([]byte, size)), api.OK)
		wantCounts(t, fmt.Sprint("a whole one of ", size), d, size, 1, true)
	}
	for _, size := range []int{0, -1, -2, -65536, 1<<26 + 1, 1 << 27, 1 << 31, 1 << 32, 1<<32 + 1, math.MinInt32, math.MaxInt32,
		math.MinInt, math.MinInt + 1, math.MaxInt, math.MaxInt - 1} {
		if d, err := drive.New(size); d != nil || err != api.ErrArg {
			t.Errorf("New(%d): %v, %v", size, d, err)
		}
	}
}

func TestNewOnesAreApart(t *testing.T) {
	a, b := made(t, 10), made(t, 10)
	a.Write("a", []byte{1})
	a.Full(true)
	a.Offline(true)
	wantList(t, b, "")
	wantCounts(t, "the other one", b, 0, 0, true)
	want(t, "Write on the other one", b.Write("b", nil), api.OK)
}

// P6.2

// call is one call on a sample: what it answers if the drive is well, and if it is full; the stand behind an OK.
type call struct {
	what       string
	do         func(d *drive.Drive) api.Errno
	well, full api.Errno
	change     func(s *stand)
}

func write(name, b string) func(d *drive.Drive) api.Errno {
	return func(d *drive.Drive) api.Errno { return d.Write(name, []byte(b)) }
}

func synced(name string) func(d *drive.Drive) api.Errno {
	return func(d *drive.Drive) api.Errno { return d.Sync(name) }
}

func deleted(name string) func(d *drive.Drive) api.Errno {
	return func(d *drive.Drive) api.Errno { return d.Delete(name) }
}

func renamed(from, to string) func(d *drive.Drive) api.Errno {
	return func(d *drive.Drive) api.Errno { return d.Rename(from, to) }
}

// files is a change to just these files, of which some are loose.
func files(now map[string]string, loose ...string) func(s *stand) {
	return func(s *stand) {
		s.files, s.loose, s.used = now, append([]string{}, loose...), 0
		for _, b := range now {
			s.used += len(b)
		}
		s.ops++
	}
}

type texts = map[string]string

// changes are calls that make, or would make, one.
func changes() []call {
	ab := texts{"a": "abcd", "b": "ef"}
	l := []call{
		{"Write(c)", write("c", "xyz"), api.OK, api.ErrFull, files(texts{"a": "abcd", "b": "ef", "c": "xyz"}, "b", "c")},
		{"Write(c), none", write("c", ""), api.OK, api.ErrFull, files(texts{"a": "abcd", "b": "ef", "c": ""}, "b", "c")},
		{"Write(c), the rest", write("c", "wxyz"), api.OK, api.ErrFull, files(texts{"a": "abcd", "b": "ef", "c": "wxyz"}, "b", "c")},
		{"Write(c), one more", write("c", "vwxyz"), api.ErrFull, api.ErrFull, nil},
		{"Write(a), as it is", write("a", "abcd"), api.OK, api.ErrFull, files(ab, "a", "b")},
		{"Write(a), none", write("a", ""), api.OK, api.ErrFull, files(texts{"a": "", "b": "ef"}, "a", "b")},
		{"Write(a), the rest", write("a", "12345678"), api.OK, api.ErrFull, files(texts{"a": "12345678", "b": "ef"}, "a", "b")},
		{"Write(a), one more", write("a", "123456789"), api.ErrFull, api.ErrFull, nil},
		{"Write(b), the rest", write("b", "123456"), api.OK, api.ErrFull, files(texts{"a": "abcd", "b": "123456"}, "b")},
		{"Write(b), one more", write("b", "1234567"), api.ErrFull, api.ErrFull, nil},
		{"Write of a long name", write(long, "1"), api.OK, api.ErrFull, files(texts{"a": "abcd", "b": "ef", long: "1"}, "b", long)},
		{"Sync(a)", synced("a"), api.OK, api.OK, files(ab, "b")},
		{"Sync(b)", synced("b"), api.OK, api.OK, files(ab)},
		{"Sync(c)", synced("c"), api.ErrMissing, api.ErrMissing, nil},
		{"Sync(A)", synced("A"), api.ErrMissing, api.ErrMissing, nil},
		{"Sync of a long name", synced(long), api.ErrMissing, api.ErrMissing, nil},
		{"Delete(a)", deleted("a"), api.OK, api.OK, files(texts{"b": "ef"}, "b")},
		{"Delete(b)", deleted("b"), api.OK, api.OK, files(texts{"a": "abcd"})},
		{"Delete(c)", deleted("c"), api.ErrMissing, api.ErrMissing, nil},
		{"Delete(aa)", deleted("aa"), api.ErrMissing, api.ErrMissing, nil},
		{"Rename(a, a)", renamed("a", "a"), api.OK, api.OK, files(ab, "b")},
		{"Rename(b, b)", renamed("b", "b"), api.OK, api.OK, files(ab, "b")},
		{"Rename(a, b)", renamed("a", "b"), api.OK, api.OK, files(texts{"b": "abcd"})},
		{"Rename(b, a)", renamed("b", "a"), api.OK, api.OK, files(texts{"a": "ef"}, "a")},
		{"Rename(a, c)", renamed("a", "c"), api.OK, api.OK, files(texts{"c": "abcd", "b": "ef"}, "b")},
		{"Rename(b, c)", renamed("b", "c"), api.OK, api.OK, files(texts{"a": "abcd", "c": "ef"}, "c")},
		{"Rename(b, long)", renamed("b", long), api.OK, api.OK, files(texts{"a": "abcd", long: "ef"}, long)},
		{"Rename(c, a)", renamed("c", "a"), api.ErrMissing, api.ErrMissing, nil},
		{"Rename(c, d)", renamed("c", "d"), api.ErrMissing, api.ErrMissing, nil},
		{"Rename(c, c)", renamed("c", "c"), api.ErrMissing, api.ErrMissing, nil},
	}
	for _, name := range wrongNames {
		for what, do := range map[string]func(d *drive.Drive) api.Errno{
			"Write": write(name, "1"), "Write, too much": write(name, "12345678901"), "Sync": synced(name), "Delete": deleted(name),
			"Rename from": renamed(name, "a"), "Rename to": renamed("a", name), "Rename from what is missing to": renamed("c", name),
			"Rename from and to": renamed(name, name),
		} {
			l = append(l, call{fmt.Sprintf("%s %.20q", what, name), do, api.ErrName, api.ErrName, nil})
		}
	}
	return l
}

func TestChangesInEachState(t *testing.T) {
	for _, s := range states() {
		for _, c := range changes() {
			what := fmt.Sprintf("%s, %+v", c.what, s)
			d := sample(t)
			s.lay(t, d)
			wantStand(t, what+", ahead", d, s.sampleStand())
			wanted := c.well
			switch {
			case s.out:
				wanted = api.ErrBroken
			case s.offline:
				wanted = api.ErrOffline
			case s.full:
				wanted = c.full
			}
			want(t, what, c.do(d), wanted)
			behind := s.sampleStand()
			if wanted == api.OK {
				c.change(&behind)
			}
			wantStand(t, what+", behind", d, behind)
		}
	}
}

func TestReadAndListInEachState(t *testing.T) {
	for _, s := range states() {
		d := sample(t)
		s.lay(t, d)
		switch {
		case s.out || s.offline:
			wanted := api.ErrOffline
			if s.out {
				wanted = api.ErrBroken
			}
			for _, name := range append([]string{"a", "b", "c"}, wrongNames...) {
				wantRead(t, d, name, "", wanted)
				if l, err := d.List(name); len(l) != 0 || err != wanted {
					t.Errorf("%+v, List(%.20q): %v, %v", s, name, l, err)
				}
			}
		default:
			wantRead(t, d, "a", "abcd", api.OK)
			wantRead(t, d, "b", "ef", api.OK)
			wantRead(t, d, "c", "", api.ErrMissing)
			wantRead(t, d, "A", "", api.ErrMissing)
			wantRead(t, d, long, "", api.ErrMissing)
			for _, name := range wrongNames {
				wantRead(t, d, name, "", api.ErrName)
			}
			wantList(t, d, "", "a", "b")
			wantList(t, d, "a", "a")
			for _, prefix := range append([]string{"c", "aa", "A", long}, wrongNames[1:]...) {
				wantList(t, d, prefix)
			}
		}
		wantStand(t, fmt.Sprintf("%+v", s), d, s.sampleStand())
	}
}

func TestWriteUpToItsSize(t *testing.T) {
	for _, size := range []int{1, 2, 3, 10, 4096, 1 << 26} {
		d := made(t, size)
		want(t, "none", d.Write("none", nil), api.OK)
		want(t, "one byte too many", d.Write("a", make([]byte, size+1)), api.ErrFull)
		want(t, "far too many", d.Write("a", make([]byte, 2*size)), api.ErrFull)
		want(t, "all", d.Write("a", make([]byte, size)), api.OK)
		want(t, "one byte more in its place", d.Write("a", make([]byte, size+1)), api.ErrFull)
		want(t, "as many in its place", d.Write("a", bytes.Repeat([]byte{7}, size)), api.OK)
		want(t, "one byte beside it", d.Write("b", []byte{1}), api.ErrFull)
		want(t, "none beside it", d.Write("b", nil), api.OK)
		want(t, "one byte in the place of none", d.Write("none", []byte{1}), api.ErrFull)
		want(t, "one byte less in its place", d.Write("a", make([]byte, size-1)), api.OK)
		want(t, "two bytes in the place of none", d.Write("none", []byte{1, 2}), api.ErrFull)
		want(t, "one byte in the place of none", d.Write("none", []byte{1}), api.OK)
		want(t, "one byte too many again", d.Write("b", []byte{1}), api.ErrFull)
		wantCounts(t, fmt.Sprint("a whole one of ", size), d, size, 6, true)
		want(t, "Delete", d.Delete("a"), api.OK)
		want(t, "its room", d.Write("b", make([]byte, size-1)), api.OK)
		wantLoose(t, d, "b", "none")
	}
}

// TestRoomComesBack: by Rename onto another one, by Delete and by Crash.
func TestRoomComesBack(t *testing.T) {
	d := made(t, 10)
	d.Write("a", make([]byte, 6))
	d.Write("b", make([]byte, 4))
	want(t, "no room", d.Write("c", []byte{1}), api.ErrFull)
	want(t, "Rename", d.Rename("b", "a"), api.OK)
	wantCounts(t, "behind Rename", d, 4, 3, true)
	want(t, "one byte too many", d.Write("c", make([]byte, 7)), api.ErrFull)
	want(t, "the room of Rename", d.Write("c", make([]byte, 6)), api.OK)
	want(t, "Rename onto itself", d.Rename("c", "c"), api.OK)
	wantCounts(t, "behind Rename onto itself", d, 10, 5, true)
	want(t, "Delete", d.Delete("a"), api.OK)
	want(t, "one byte too many", d.Write("b", make([]byte, 5)), api.ErrFull)
	want(t, "the room of Delete", d.Write("b", make([]byte, 4)), api.OK)
	want(t, "Sync", d.Sync("b"), api.OK)
	want(t, "Crash", d.Crash(nil), api.OK)
	wantCounts(t, "behind Crash", d, 4, 8, true)
	want(t, "one byte too many", d.Write("c", make([]byte, 7)), api.ErrFull)
	want(t, "the room of Crash", d.Write("c", make([]byte, 6)), api.OK)
}

// TestFullWhateverRoom: only Write asks for room, and takes none of it where the drive is said to be full.
func TestFullWhateverRoom(t *testing.T) {
	d := sample(t)
	d.Full(true)
	for _, b := range []string{"", "1", "ef", "12345678901"} {
		for _, name := range []string{"a", "b", "c"} {
			want(t, "Write", d.Write(name, []byte(b)), api.ErrFull)
		}
	}
	want(t, "Sync", d.Sync("b"), api.OK)
	want(t, "Rename", d.Rename("b", "c"), api.OK)
	want(t, "Delete", d.Delete("c"), api.OK)
	wantList(t, d, "", "a")
	wantCounts(t, "full", d, 4, 6, true)
	d.Full(false)
	want(t, "Write", d.Write("c", make([]byte, 6)), api.OK)
}

func TestListIsRising(t *testing.T) {
	r := rand.New(rand.NewSource(1))
	d := made(t, 1000)
	wanted := []string{"!", "A", "B", "Z", "a", "a!", "a/", "a/b", "a/c", "a0", "aa", "ab", "b", "j/a", "j/a/b", "j/b", "tmp/", "tmp/j/a", "~", "~~", long}
	sort.Strings(wanted)
	for _, i := range r.Perm(len(wanted)) {
		want(t, wanted[i], d.Write(wanted[i], []byte{byte(i)}), api.OK)
	}
	wantLoose(t, d, wanted...)
	for _, prefix := range append(slices.Clone(wanted), "", "j", "j/", "t", "tmp", "tmp/j", "tmp/j/", "aaa", " ", "\x7f", "n", "nn", long+"n") {
		var some []string
		for _, name := range wanted {
			if strings.HasPrefix(name, prefix) {
				some = append(some, name)
			}
		}
		wantList(t, d, prefix, some...)
	}
	for _, name := range wanted[1:] {
		want(t, "Delete", d.Delete(name), api.OK)
	}
	wantList(t, d, "", wanted[0])
	wantList(t, d, "a")
}

// TestRenameKeepsLooseness: what is renamed is loose as it was, whatever had the name.
func TestRenameKeepsLooseness(t *testing.T) {
	for i := range 4 {
		d := made(t, 10)
		d.Write("from", []byte("12"))
		d.Write("to", []byte("345"))
		var loose []string
		if i&1 == 0 {
			d.Sync("from")
		} else {
			loose = []string{"to"}
		}
		if i&2 == 0 {
			d.Sync("to")
		}
		want(t, "Rename", d.Rename("from", "to"), api.OK)
		wantList(t, d, "", "to")
		wantLoose(t, d, loose...)
		wantRead(t, d, "to", "12", api.OK)
		wantRead(t, d, "from", "", api.ErrMissing)
		want(t, "Rename again", d.Rename("from", "to"), api.ErrMissing)
		d.Crash(nil)
		if len(loose) > 0 {
			wantList(t, d, "")
		} else {
			wantList(t, d, "", "to")
		}
	}
}

// P6.3

func TestOfflineAndFullInEachState(t *testing.T) {
	for _, s := range states() {
		for _, is := range []bool{true, false} {
			d := sample(t)
			s.lay(t, d)
			want(t, "Offline", d.Offline(is), api.OK)
			next := state{s.out, is, s.full}
			wantStand(t, fmt.Sprintf("%+v, Offline(%v)", s, is), d, next.sampleStand())
			want(t, "Full", d.Full(is), api.OK)
			next.full = is
			wantStand(t, fmt.Sprintf("%+v, Full(%v)", s, is), d, next.sampleStand())
		}
	}
}

func TestTurnAtEachPlace(t *testing.T) {
	for _, s := range states() {
		for _, name := range []string{"a", "b"} {
			d := sample(t)
			s.lay(t, d)
			wanted := s.sampleStand()
			b := []byte(wanted.files[name])
			for _, at := range []int{-1, -2, len(b), len(b) + 1, len(b) + 2, 10, 1 << 32, 1<<32 + 1, math.MinInt, math.MaxInt} {
				want(t, fmt.Sprint("Turn at ", at), d.Turn(name, at, 1), api.ErrRange)
			}
			wantStand(t, fmt.Sprintf("%+v, no turn", s), d, wanted)
			for at := range b {
				for _, mask := range []byte{1, 0, 255, 128, 3} {
					b[at] ^= mask
					want(t, fmt.Sprint("Turn at ", at), d.Turn(name, at, mask), api.OK)
					wanted.files[name] = string(b)
					wantStand(t, fmt.Sprintf("%+v, Turn(%s, %d, %d)", s, name, at, mask), d, wanted)
				}
			}
		}
	}
}

func TestTurnOfWhatIsMissing(t *testing.T) {
	for _, s := range states() {
		d := sample(t)
		s.lay(t, d)
		for _, name := range append([]string{"c", "A", "aa", long}, wrongNames...) {
			for _, at := range []int{0, 1, -1, math.MaxInt} {
				want(t, fmt.Sprintf("Turn(%.20q)", name), d.Turn(name, at, 1), api.ErrMissing)
			}
		}
		wantStand(t, fmt.Sprintf("%+v", s), d, s.sampleStand())
	}
	d := made(t, 1)
	want(t, "Write of none", d.Write("a", nil), api.OK)
	for _, at := range []int{0, 1, -1} {
		want(t, "Turn of none", d.Turn("a", at, 1), api.ErrRange)
	}
}

// TestTurnIsNoChange: it is not counted, asks no fuse, and is undone by the next one.
func TestTurnIsNoChange(t *testing.T) {
	d := sample(t)
	drive.Fuse(drives{d}, 1)
	for range 4 {
		want(t, "Turn", d.Turn("a", 0, 2), api.OK)
		want(t, "Turn", d.Turn("b", 1, 255), api.OK)
	}
	wantStand(t, "behind turns", d, sampleStand())
	want(t, "Turn", d.Turn("a", 3, 1), api.OK)
	want(t, "Rename", d.Rename("a", "c"), api.OK)
	wantRead(t, d, "c", "abce", api.OK)
	want(t, "the next change", d.Sync("c"), api.ErrBroken)
	want(t, "Turn", d.Turn("c", 3, 1), api.OK)
	want(t, "Crash", d.Crash(nil), api.OK)
	wantRead(t, d, "c", "abcd", api.OK)
}

func TestCrashKeeps(t *testing.T) {
	names := []string{"b", "d", "f"}
	for length := range 6 {
		for choice := range 1 << length {
			for _, s := range states() {
				d := made(t, 100)
				for _, i := range []int{4, 1, 3, 0, 2, 5} {
					name := string(rune('a' + i))
					d.Write(name, []byte("is "+name))
				}
				for _, name := range []string{"a", "c", "e"} {
					d.Sync(name)
				}
				s.lay(t, d)
				wanted := stand{files: texts{"a": "is a", "c": "is c", "e": "is e"}, loose: []string{}, used: 12, ops: 9,
					up: !s.offline, offline: s.offline, full: s.full}
				keeps := make([]bool, length)
				for i := range keeps {
					keeps[i] = choice>>i&1 != 0
					if keeps[i] && i < len(names) {
						wanted.files[names[i]] = "is " + names[i]
						wanted.used += 4
					}
				}
				want(t, "Crash", d.Crash(keeps), api.OK)
				wantStand(t, fmt.Sprintf("Crash(%v), %+v", keeps, s), d, wanted)
				want(t, "Crash again", d.Crash(nil), api.OK)
				wantStand(t, fmt.Sprintf("Crash(%v), %+v, again", keeps, s), d, wanted)
			}
		}
	}
}

func TestCrashOfNone(t *testing.T) {
	for _, keeps := range [][]bool{nil, {}, {true}, {false, true}, make([]bool, 1000)} {
		d := made(t, 10)
		want(t, "Crash without files", d.Crash(keeps), api.OK)
		wantStand(t, "without files", d, stand{files: texts{}, loose: []string{}, up: true})
		d.Write("a", []byte("1"))
		d.Sync("a")
		want(t, "Crash without loose ones", d.Crash(keeps), api.OK)
		wantStand(t, "without loose ones", d, stand{files: texts{"a": "1"}, loose: []string{}, used: 1, ops: 2, up: true})
	}
}

// TestCrashOfWhatWasWrittenOver: a synced file that is written anew is loose, and is gone whole.
func TestCrashOfWhatWasWrittenOver(t *testing.T) {
	d := sample(t)
	want(t, "Write", d.Write("a", []byte("xy")), api.OK)
	wantLoose(t, d, "a", "b")
	kept := d.Clone()
	want(t, "Crash", d.Crash([]bool{false, true}), api.OK)
	wantStand(t, "dropped", d, stand{files: texts{"b": "ef"}, loose: []string{}, used: 2, ops: 4, up: true})
	want(t, "Crash", kept.Crash([]bool{true}), api.OK)
	wantStand(t, "kept", kept, stand{files: texts{"a": "xy"}, loose: []string{}, used: 2, ops: 4, up: true})
}

// TestCrashTakesTheFuse: of that drive alone.
func TestCrashTakesTheFuse(t *testing.T) {
	a, b := sample(t), sample(t)
	want(t, "Fuse", drive.Fuse(drives{a, b}, 1), api.OK)
	want(t, "Crash", a.Crash([]bool{true}), api.OK)
	for range 5 {
		want(t, "Sync without a fuse", a.Sync("a"), api.OK)
	}
	want(t, "Sync with it", b.Sync("a"), api.OK)
	want(t, "Sync beyond it", b.Sync("a"), api.ErrBroken)
	wantCounts(t, "the one without a fuse", a, 6, 8, true)
	wantCounts(t, "the other one", b, 6, 4, false)
	want(t, "Sync without a fuse", a.Sync("a"), api.OK)
	want(t, "Crash", b.Crash(nil), api.OK)
	for range 5 {
		want(t, "Sync behind the crash", b.Sync("a"), api.OK)
	}
}

// P6.4

func TestOpsAreChangesThatWereMade(t *testing.T) {
	d := made(t, 10)
	ops := 0
	for i, err := range []api.Errno{
		d.Write("a", []byte("1")), d.Write("a", []byte("1")), d.Sync("a"), d.Sync("a"), d.Rename("a", "a"), d.Rename("a", "b"), d.Delete("b"),
	} {
		want(t, fmt.Sprint("change ", i), err, api.OK)
		ops++
	}
	wantCounts(t, "changes", d, 0, ops, true)
	d.Write("a", make([]byte, 11))
	d.Write("", nil)
	d.Sync("b")
	d.Delete("b")
	d.Rename("b", "a")
	d.Rename("b", "")
	d.Read("a")
	d.List("")
	d.Turn("a", 0, 1)
	d.Full(true)
	d.Write("a", nil)
	d.Full(false)
	d.Offline(true)
	d.Write("a", nil)
	wantCounts(t, "offline", d, 0, ops, false)
	d.Offline(false)
	wantCounts(t, "no changes", d, 0, ops, true)
	drive.Fuse(drives{d}, 0)
	wantCounts(t, "a fuse that has not gone", d, 0, ops, true)
	want(t, "Write", d.Write("a", []byte("1")), api.ErrBroken)
	wantCounts(t, "out", d, 0, ops, false)
	d.Crash([]bool{true})
	wantCounts(t, "behind the crash", d, 0, ops, true)
}

// room is how many bytes more a drive takes.
func room(d *drive.Drive) int {
	n := 0
	for d.Clone().Write("room", make([]byte, n+1)) == api.OK {
		n++
	}
	return n
}

func TestCloneInEachState(t *testing.T) {
	for _, s := range states() {
		d := sample(t)
		s.lay(t, d)
		c := d.Clone()
		wantStand(t, fmt.Sprintf("the clone of %+v", s), c, s.sampleStand())
		wantStand(t, fmt.Sprintf("the cloned %+v", s), d, s.sampleStand())
		wantStand(t, fmt.Sprintf("the clone's clone of %+v", s), c.Clone(), s.sampleStand())
		c.Crash([]bool{true})
		c.Offline(false)
		c.Full(false)
		if room(c) != 4 {
			t.Errorf("the clone of %+v has room for %d", s, room(c))
		}
	}
}

// TestCloneIsItsOwn: whatever is done to one of the two, the other one is as it was.
func TestCloneIsItsOwn(t *testing.T) {
	doings := map[string]func(d *drive.Drive){
		"Write anew": func(d *drive.Drive) { d.Write("a", []byte("12345678")) },
		"Write":      func(d *drive.Drive) { d.Write("c", []byte("123")) },
		"Sync":       func(d *drive.Drive) { d.Sync("b") },
		"Rename":     func(d *drive.Drive) { d.Rename("a", "b") },
		"Delete":     func(d *drive.Drive) { d.Delete("a") },
		"Turn":       func(d *drive.Drive) { d.Turn("a", 2, 255) },
		"Turn loose": func(d *drive.Drive) { d.Turn("b", 0, 1) },
		"Offline":    func(d *drive.Drive) { d.Offline(true) },
		"Full":       func(d *drive.Drive) { d.Full(true) },
		"Crash":      func(d *drive.Drive) { d.Crash(nil) },
		"a fuse":     func(d *drive.Drive) { drive.Fuse(drives{d}, 0); d.Delete("a") },
	}
	for what, do := range doings {
		d := sample(t)
		c := d.Clone()
		do(c)
		wantStand(t, what+" of the clone", d, sampleStand())
		changed := standOf(c)
		if reflect.DeepEqual(changed, sampleStand()) {
			t.Errorf("%s of the clone changed nothing", what)
		}
		e := sample(t)
		f := e.Clone()
		do(e)
		wantStand(t, what+" of the cloned one", f, sampleStand())
		wantStand(t, what+" of the cloned one itself", e, changed)
	}
}

func TestCloneHasNoFuse(t *testing.T) {
	d := sample(t)
	want(t, "Fuse", drive.Fuse(drives{d}, 1), api.OK)
	c := d.Clone()
	for range 5 {
		want(t, "Sync of the clone", c.Sync("a"), api.OK)
	}
	want(t, "Sync", d.Sync("a"), api.OK)
	want(t, "Sync beyond the fuse", d.Sync("a"), api.ErrBroken)
	wantCounts(t, "the clone", c, 6, 8, true)
	want(t, "Sync of the clone", c.Sync("a"), api.OK)
	out := d.Clone()
	want(t, "Crash", d.Crash(nil), api.OK)
	want(t, "Sync of the clone that is out", out.Sync("a"), api.ErrBroken)
	want(t, "Crash of the clone", out.Crash(nil), api.OK)
	for range 5 {
		want(t, "Sync behind the crash", out.Sync("a"), api.OK)
	}
	want(t, "Fuse of the clone", drive.Fuse(drives{c}, 0), api.OK)
	want(t, "Sync of the clone", c.Sync("a"), api.ErrBroken)
	want(t, "Sync", d.Sync("a"), api.OK)
}

func samples(t *testing.T, n int) drives {
	t.Helper()
	l := make(drives, n)
	for i := range l {
		l[i] = sample(t)
	}
	return l
}

// TestFuseOfSeveral: so many changes go by, of any of them, then all are out, until each crashes.
func TestFuseOfSeveral(t *testing.T) {
	r := rand.New(rand.NewSource(2))
	for _, count := range []int{1, 2, 3, 16, 63, 64} {
		for _, n := range []int{0, 1, 2, 5, 100} {
			l := samples(t, count)
			want(t, "Fuse", drive.Fuse(l, n), api.OK)
			for i := range n {
				d := l[r.Intn(count)]
				want(t, fmt.Sprint("change ", i), []func() api.Errno{
					func() api.Errno { return d.Sync("a") },
					func() api.Errno { return d.Write("a", []byte("abcd")) },
					func() api.Errno { return d.Rename("a", "a") },
					func() api.Errno { return d.Write("b", []byte("ef")) },
				}[r.Intn(4)](), api.OK)
				want(t, "no change", d.Delete("c"), api.ErrMissing)
			}
			was := make([]stand, count)
			for i, d := range l {
				was[i] = standOf(d)
				if !d.Up() {
					t.Errorf("%d of %d drives is out ahead of change %d", i, count, n+1)
				}
			}
			want(t, "one more change", l[r.Intn(count)].Delete("a"), api.ErrBroken)
			for i, d := range l {
				was[i].out, was[i].up = true, false
				wantStand(t, fmt.Sprintf("%d of %d drives behind %d changes", i, count, n), d, was[i])
				want(t, "Write", d.Write("a", nil), api.ErrBroken)
				want(t, "Sync of what is missing", d.Sync("c"), api.ErrBroken)
				want(t, "Write of a wrong name", d.Write("", nil), api.ErrBroken)
			}
			for i, d := range l {
				want(t, "Crash", d.Crash([]bool{true, true}), api.OK)
				if !d.Up() || i+1 < count && l[i+1].Up() {
					t.Errorf("the crash of %d of %d drives", i, count)
				}
				want(t, "Delete behind the crash", d.Delete("a"), api.OK)
			}
		}
	}
}

// TestEachChangeAsksTheFuse: and no other call does.
func TestEachChangeAsksTheFuse(t *testing.T) {
	for _, c := range changes() {
		d := sample(t)
		drive.Fuse(drives{d}, 0)
		wanted := c.well
		behind := sampleStand()
		if wanted == api.OK {
			wanted, behind.out, behind.up = api.ErrBroken, true, false
		}
		want(t, c.what+", a fuse of none", c.do(d), wanted)
		wantStand(t, c.what+", a fuse of none", d, behind)
		d = sample(t)
		drive.Fuse(drives{d}, 1)
		want(t, c.what+", a fuse of one", c.do(d), c.well)
		behind = sampleStand()
		if c.well == api.OK {
			c.change(&behind)
		}
		wantStand(t, c.what+", a fuse of one", d, behind)
		if c.well == api.OK {
			want(t, c.what+", the next one", d.Write("z", nil), api.ErrBroken)
		} else {
			want(t, c.what+", the next one", d.Write("z", nil), api.OK)
		}
	}
	d := sample(t)
	drive.Fuse(drives{d}, 0)
	wantRead(t, d, "a", "abcd", api.OK)
	wantList(t, d, "", "a", "b")
	d.Loose()
	d.Used()
	d.Clone().Delete("a")
	d.Full(true)
	want(t, "Write on a full one", d.Write("c", nil), api.ErrFull)
	d.Offline(true)
	want(t, "Sync on an offline one", d.Sync("a"), api.ErrOffline)
	d.Offline(false)
	d.Full(false)
	wantStand(t, "what is no change", d, sampleStand())
	want(t, "a change", d.Delete("a"), api.ErrBroken)
}

func TestFuseErrors(t *testing.T) {
	var none *drive.Drive
	unmade := &drive.Drive{}
	d := sample(t)
	many := slices.Repeat(drives{d}, 65)
	for _, c := range []struct {
		what   string
		l      drives
		n      int
		wanted api.Errno
	}{
		{"no drives", nil, 0, api.OK},
		{"no drives, 5", drives{}, 5, api.OK},
		{"no drives, below 0", nil, -1, api.ErrArg},
		{"below 0", drives{d}, -1, api.ErrArg},
		{"far below 0", drives{d, d}, math.MinInt, api.ErrArg},
		{"65", many, 1, api.ErrArg},
		{"65, below 0", many, -1, api.ErrArg},
		{"none", drives{none}, 1, api.ErrNil},
		{"none, below 0", drives{none}, -1, api.ErrNil},
		{"none at the end", drives{d, d, nil}, 1, api.ErrNil},
		{"one that nobody made", drives{d, unmade}, 1, api.ErrNil},
		{"none ahead", drives{nil, d}, 0, api.ErrNil},
		{"65 and none", append(slices.Clone(many), nil), 1, api.ErrNil},
		{"65 that nobody made", slices.Repeat(drives{unmade}, 65), -1, api.ErrNil},
	} {
		want(t, c.what, drive.Fuse(c.l, c.n), c.wanted)
		for range 3 {
			want(t, c.what+", a change behind it", d.Sync("a"), api.OK)
		}
	}
	// What is refused leaves the fuse that is there.
	want(t, "Fuse", drive.Fuse(drives{d}, 1), api.OK)
	drive.Fuse(drives{d}, -1)
	drive.Fuse(drives{d, nil}, 9)
	drive.Fuse(many, 9)
	want(t, "Sync", d.Sync("a"), api.OK)
	want(t, "Sync beyond", d.Sync("a"), api.ErrBroken)
}

func TestFuseOfTheGreatestNumber(t *testing.T) {
	d := sample(t)
	want(t, "Fuse", drive.Fuse(drives{d}, math.MaxInt), api.OK)
	for range 100 {
		want(t, "Sync", d.Sync("a"), api.OK)
	}
	wantCounts(t, "the greatest", d, 6, 103, true)
}

// TestFuseOfOneDriveTwice: it is one drive, whose changes are counted once.
func TestFuseOfOneDriveTwice(t *testing.T) {
	d, other := sample(t), sample(t)
	want(t, "Fuse", drive.Fuse(append(slices.Repeat(drives{d}, 63), other), 3), api.OK)
	for range 3 {
		want(t, "Sync", d.Sync("a"), api.OK)
	}
	want(t, "Sync beyond", d.Sync("a"), api.ErrBroken)
	want(t, "Sync of the other one", other.Sync("a"), api.ErrBroken)
	want(t, "Crash", d.Crash(nil), api.OK)
	want(t, "Sync", d.Sync("a"), api.OK)
}

// TestFuseInThePlaceOfAnother: a drive has the last one alone.
func TestFuseInThePlaceOfAnother(t *testing.T) {
	l := samples(t, 3)
	a, b, c := l[0], l[1], l[2]
	drive.Fuse(drives{a, b}, 1)
	drive.Fuse(drives{b, c}, 2)
	want(t, "the first fuse", a.Sync("a"), api.OK)
	want(t, "beyond it", a.Sync("a"), api.ErrBroken)
	if a.Up() || !b.Up() || !c.Up() {
		t.Error("the first fuse has the second drive still")
	}
	want(t, "the second fuse", b.Sync("a"), api.OK)
	want(t, "the second fuse", c.Sync("a"), api.OK)
	want(t, "beyond it", c.Sync("a"), api.ErrBroken)
	if b.Up() {
		t.Error("the second fuse has not the second drive")
	}
	// A greater one takes the place of a smaller one, of the same drives.
	d := sample(t)
	drive.Fuse(drives{d}, 0)
	drive.Fuse(drives{d}, 2)
	want(t, "Sync", d.Sync("a"), api.OK)
	drive.Fuse(drives{d}, 1)
	want(t, "Sync", d.Sync("a"), api.OK)
	want(t, "Sync", d.Sync("a"), api.ErrBroken)
}

// TestFuseOfDrivesThatAreOut: they stay so, and the others have the fuse.
func TestFuseOfDrivesThatAreOut(t *testing.T) {
	l := samples(t, 3)
	a, b, c := l[0], l[1], l[2]
	drive.Fuse(drives{a, c}, 0)
	want(t, "Sync", a.Sync("a"), api.ErrBroken)
	for range 3 {
		want(t, "Fuse", drive.Fuse(drives{a, b}, 2), api.OK)
		if a.Up() || !b.Up() || c.Up() {
			t.Fatal("a fuse makes drives up, or out")
		}
		want(t, "Write where it is out", a.Write("a", nil), api.ErrBroken)
	}
	want(t, "Sync", b.Sync("a"), api.OK)
	want(t, "Crash", a.Crash(nil), api.OK)
	for range 4 {
		want(t, "Sync behind the crash", a.Sync("a"), api.OK)
	}
	want(t, "Sync", b.Sync("a"), api.OK)
	want(t, "Sync beyond", b.Sync("a"), api.ErrBroken)
	if !a.Up() || b.Up() || c.Up() {
		t.Error("the fuse has a drive that crashed")
	}
	want(t, "Fuse", drive.Fuse(drives{c, b}, 0), api.OK)
	want(t, "Crash", c.Crash(nil), api.OK)
	want(t, "Sync", c.Sync("a"), api.OK)
	want(t, "Sync", b.Sync("a"), api.ErrBroken)
}

// None

// callAll makes all calls, and tells whether each answers ErrNil, or a zero value.
func callAll(t *testing.T, what string, d *drive.Drive) {
	t.Helper()
	for _, name := range []string{"a", "", "a b"} {
		want(t, what+", Write", d.Write(name, []byte("1")), api.ErrNil)
		want(t, what+", Write of none", d.Write(name, nil), api.ErrNil)
		want(t, what+", Sync", d.Sync(name), api.ErrNil)
		want(t, what+", Rename", d.Rename(name, "b"), api.ErrNil)
		want(t, what+", Rename", d.Rename("b", name), api.ErrNil)
		want(t, what+", Delete", d.Delete(name), api.ErrNil)
		wantRead(t, d, name, "", api.ErrNil)
		if l, err := d.List(name); len(l) != 0 || err != api.ErrNil {
			t.Errorf("%s, List: %v, %v", what, l, err)
		}
		want(t, what+", Turn", d.Turn(name, 0, 1), api.ErrNil)
		want(t, what+", Turn", d.Turn(name, -1, 0), api.ErrNil)
	}
	for _, is := range []bool{true, false} {
		want(t, what+", Offline", d.Offline(is), api.ErrNil)
		want(t, what+", Full", d.Full(is), api.ErrNil)
		want(t, what+", Crash", d.Crash([]bool{is}), api.ErrNil)
	}
	want(t, what+", Crash", d.Crash(nil), api.ErrNil)
	wantCounts(t, what, d, 0, 0, false)
	wantLoose(t, d)
	if d.Clone() != nil {
		t.Errorf("%s has a clone", what)
	}
	want(t, what+", Fuse", drive.Fuse(drives{d}, 1), api.ErrNil)
	want(t, what+", Fuse", drive.Fuse(drives{d}, -1), api.ErrNil)
}

func TestNone(t *testing.T) {
	var zero drive.Drive
	for range 2 {
		callAll(t, "nil", nil)
		callAll(t, "an empty one", &drive.Drive{})
		callAll(t, "a zero one", &zero)
		callAll(t, "what New refused", func() *drive.Drive { d, _ := drive.New(0); return d }())
	}
}

// TestCopyByValueIsNone: New and Clone did not answer it, and it changes not the one of which it is.
func TestCopyByValueIsNone(t *testing.T) {
	d := sample(t)
	for _, made := range []*drive.Drive{d, d.Clone()} {
		copied := *made
		callAll(t, "a copy", &copied)
		wantStand(t, "the copied one", made, sampleStand())
	}
}

// P6.5

// TestExamples: those of the document.
func TestExamples(t *testing.T) {
	d, other := made(t, 10), made(t, 10)
	want(t, "Write(a)", d.Write("a", []byte("1234")), api.OK)
	wantLoose(t, d, "a")
	want(t, "Sync(a)", d.Sync("a"), api.OK)
	want(t, "Write(b), 7 bytes", d.Write("b", make([]byte, 7)), api.ErrFull)
	want(t, "Write(b), 2 bytes", d.Write("b", make([]byte, 2)), api.OK)
	want(t, "Rename(b, c)", d.Rename("b", "c"), api.OK)
	want(t, "Crash", d.Crash(nil), api.OK)
	wantList(t, d, "", "a")
	want(t, "Offline", d.Offline(true), api.OK)
	wantRead(t, d, "a", "", api.ErrOffline)
	wantCounts(t, "offline", d, 4, 4, false)
	want(t, "Offline", d.Offline(false), api.OK)
	wantRead(t, d, "a", "1234", api.OK)
	want(t, "Turn(a, 4, 1)", d.Turn("a", 4, 1), api.ErrRange)
	want(t, "Turn(x, 0, 1)", d.Turn("x", 0, 1), api.ErrMissing)
	want(t, "Write(a b)", d.Write("a b", nil), api.ErrName)
	want(t, "Fuse", drive.Fuse(drives{d, other}, 1), api.OK)
	want(t, "Write(d)", d.Write("d", []byte{1}), api.OK)
	want(t, "Delete(a)", d.Delete("a"), api.ErrBroken)
	wantRead(t, d, "a", "", api.ErrBroken)
	want(t, "the other one's Write", other.Write("x", nil), api.ErrBroken)
	want(t, "Crash", d.Crash([]bool{true}), api.OK)
	wantList(t, d, "", "a", "d")
}

// plainFile and plain are a drive as the document says it, with nothing counted along.
type plainFile struct {
	b     string
	loose bool
}

type plain struct {
	size               int
	files              map[string]plainFile
	out, offline, full bool
	ops                int
	fuse               *plainFuse
}

// plainFuse knows its drives, and makes each of them out.
type plainFuse struct {
	left int
	of   []*plain
}

func newPlain(size int) *plain { return &plain{size: size, files: map[string]plainFile{}} }

func (p *plain) used() int {
	n := 0
	for _, f := range p.files {
		n += len(f.b)
	}
	return n
}

func (p *plain) loose() []string {
	l := []string{}
	for name, f := range p.files {
		if f.loose {
			l = append(l, name)
		}
	}
	sort.Strings(l)
	return l
}

func (p *plain) stand() stand {
	s := stand{files: texts{}, loose: p.loose(), used: p.used(), ops: p.ops, up: !p.out && !p.offline,
		out: p.out, offline: p.offline, full: p.full}
	for name, f := range p.files {
		s.files[name] = f.b
	}
	return s
}

func mayBe(name string) bool {
	return len(name) >= 1 && len(name) <= 512 && strings.IndexFunc(name, func(r rune) bool { return r < '!' || r > '~' }) < 0
}

func (p *plain) gate(names ...string) api.Errno {
	if p.out {
		return api.ErrBroken
	}
	if p.offline {
		return api.ErrOffline
	}
	for _, name := range names {
		if !mayBe(name) {
			return api.ErrName
		}
	}
	return api.OK
}

// apply makes a change of all files, if nothing stands against it.
func (p *plain) apply(after map[string]plainFile) api.Errno {
	if f := p.fuse; f != nil {
		if f.left == 0 {
			for _, other := range f.of {
				if other.fuse == f {
					other.out, other.fuse = true, nil
				}
			}
			return api.ErrBroken
		}
		f.left--
	}
	p.files = after
	p.ops++
	return api.OK
}

func (p *plain) write(name string, b []byte) api.Errno {
	if err := p.gate(name); err != api.OK {
		return err
	}
	after := &plain{files: maps.Clone(p.files)}
	after.files[name] = plainFile{string(b), true}
	if p.full || after.used() > p.size {
		return api.ErrFull
	}
	return p.apply(after.files)
}

// of makes a change of a file that must be there.
func (p *plain) of(name string, change func(after map[string]plainFile, f plainFile), names ...string) api.Errno {
	if err := p.gate(append(names, name)...); err != api.OK {
		return err
	}
	f, there := p.files[name]
	if !there {
		return api.ErrMissing
	}
	after := maps.Clone(p.files)
	change(after, f)
	return p.apply(after)
}

func (p *plain) sync(name string) api.Errno {
	return p.of(name, func(after map[string]plainFile, f plainFile) { after[name] = plainFile{f.b, false} })
}

func (p *plain) delete(name string) api.Errno {
	return p.of(name, func(after map[string]plainFile, f plainFile) { delete(after, name) })
}

func (p *plain) rename(from, to string) api.Errno {
	return p.of(from, func(after map[string]plainFile, f plainFile) {
		delete(after, from)
		after[to] = f
	}, to)
}

func (p *plain) turn(name string, at int, mask byte) api.Errno {
	f, there := p.files[name]
	if !there {
		return api.ErrMissing
	}
	if at < 0 || at >= len(f.b) {
		return api.ErrRange
	}
	b := []byte(f.b)
	b[at] ^= mask
	p.files[name] = plainFile{string(b), f.loose}
	return api.OK
}

func (p *plain) crash(keeps []bool) {
	for i, name := range p.loose() {
		if i < len(keeps) && keeps[i] {
			p.files[name] = plainFile{p.files[name].b, false}
		} else {
			delete(p.files, name)
		}
	}
	p.out, p.fuse = false, nil
}

func (p *plain) clone() *plain {
	c := *p
	c.files, c.fuse = maps.Clone(p.files), nil
	return &c
}

// life is some drives and what they are to be.
type life struct {
	r  *rand.Rand
	l  drives
	ps []*plain
}

func (x *life) name() string {
	names := []string{"a", "a", "b", "b", "ab", "c", "tmp/a", "j/a", "~", "", "a b", "\x80"}
	return names[x.r.Intn(len(names))]
}

func (x *life) bytes(n int) []byte {
	b := make([]byte, n)
	x.r.Read(b)
	return b
}

// step does one thing to a drive and to what it is to be, and tells what both answer.
func (x *life) step(i int) (what string, got, wanted any) {
	d, p, name := x.l[i], x.ps[i], x.name()
	switch x.r.Intn(18) {
	case 0, 1, 2, 3:
		b := x.bytes(x.r.Intn(8))
		return "Write " + name, d.Write(name, b), p.write(name, b)
	case 4, 5:
		return "Sync " + name, d.Sync(name), p.sync(name)
	case 6, 7:
		to := x.name()
		return "Rename " + name + " " + to, d.Rename(name, to), p.rename(name, to)
	case 8:
		return "Delete " + name, d.Delete(name), p.delete(name)
	case 9:
		b, err := d.Read(name)
		wanted := p.gate(name)
		if f, there := p.files[name]; wanted == api.OK && there {
			return "Read " + name, fmt.Sprintf("%q %v", b, err), fmt.Sprintf("%q %v", f.b, api.OK)
		} else if wanted == api.OK {
			wanted = api.ErrMissing
		}
		return "Read " + name, fmt.Sprintf("%q %v", b, err), fmt.Sprintf("%q %v", "", wanted)
	case 10:
		l, err := d.List(name)
		var some []string
		if p.gate() == api.OK {
			some = slices.DeleteFunc(slices.Sorted(maps.Keys(p.files)), func(s string) bool { return !strings.HasPrefix(s, name) })
		}
		return "List " + name, fmt.Sprintf("%q %v", l, err), fmt.Sprintf("%q %v", some, p.gate())
	case 11:
		p.offline = x.r.Intn(3) == 0
		return "Offline", d.Offline(p.offline), api.OK
	case 12:
		p.full = x.r.Intn(4) == 0
		return "Full", d.Full(p.full), api.OK
	case 13:
		at, mask := x.r.Intn(10)-1, byte(x.r.Intn(256))
		return "Turn " + name, d.Turn(name, at, mask), p.turn(name, at, mask)
	case 14, 15:
		keeps := make([]bool, x.r.Intn(6))
		for i := range keeps {
			keeps[i] = x.r.Intn(2) == 0
		}
		p.crash(keeps)
		return "Crash", d.Crash(keeps), api.OK
	case 16:
		to := x.r.Intn(len(x.l))
		x.l[to], x.ps[to] = d.Clone(), p.clone()
		return "Clone", x.l[to] != d, true
	}
	return x.stepFuse()
}

func (x *life) stepFuse() (what string, got, wanted any) {
	f := &plainFuse{left: x.r.Intn(12)}
	var l drives
	for range x.r.Intn(2 * len(x.l)) {
		i := x.r.Intn(len(x.l))
		l, f.of = append(l, x.l[i]), append(f.of, x.ps[i])
		x.ps[i].fuse = f
	}
	return "Fuse", drive.Fuse(l, f.left), api.OK
}

// TestLives: whatever is done to drives, in whatever order, they answer and stand as the document says it.
func TestLives(t *testing.T) {
	for seed := range int64(60) {
		x := &life{r: rand.New(rand.NewSource(seed))}
		for range 1 + seed%5 {
			size := 1 + x.r.Intn(24)
			x.l, x.ps = append(x.l, made(t, size)), append(x.ps, newPlain(size))
		}
		for step := range 600 {
			what, got, wanted := x.step(x.r.Intn(len(x.l)))
			if got != wanted {
				t.Fatalf("life %d, step %d, %s: %v, wanted %v", seed, step, what, got, wanted)
			}
			for i, p := range x.ps {
				if got, wanted := standOf(x.l[i]), p.stand(); !reflect.DeepEqual(got, wanted) {
					t.Fatalf("life %d, step %d, %s, drive %d: %v, wanted %v", seed, step, what, i, got, wanted)
				}
			}
		}
	}
}

// TestSyncedOutlives: whatever is kept of the loose, what was synced is there, and what was loose is whole or gone.
func TestSyncedOutlives(t *testing.T) {
	r := rand.New(rand.NewSource(3))
	for range 300 {
		d := made(t, 1000)
		for range r.Intn(40) {
			name := fmt.Sprint(r.Intn(12))
			switch r.Intn(5) {
			case 0, 1:
				d.Write(name, []byte(fmt.Sprint(name, " is ", r.Intn(1000))))
			case 2, 3:
				d.Sync(name)
			case 4:
				d.Rename(name, fmt.Sprint(r.Intn(12)))
			}
		}
		was := standOf(d)
		keeps := make([]bool, r.Intn(14))
		for i := range keeps {
			keeps[i] = r.Intn(2) == 0
		}
		d.Crash(keeps)
		now := standOf(d)
		for name, b := range was.files {
			place, loose := slices.BinarySearch(was.loose, name)
			stays := !loose || place < len(keeps) && keeps[place]
			if got, there := now.files[name]; there != stays || there && got != b {
				t.Errorf("%s: %q, %v behind the crash with %v, %v loose", name, got, there, keeps, was.loose)
			}
		}
		if len(now.loose) != 0 {
			t.Errorf("%v are loose behind a crash", now.loose)
		}
	}
}

// TestFuseCounts: all drives of a fuse together make just so many changes, as long as there are any to make.
func TestFuseCounts(t *testing.T) {
	r := rand.New(rand.NewSource(4))
	for range 300 {
		l := samples(t, 1+r.Intn(8))
		n, tried, made := r.Intn(30), r.Intn(60), 0
		want(t, "Fuse", drive.Fuse(l, n), api.OK)
		for range tried {
			d := l[r.Intn(len(l))]
			d.Sync("missing")
			d.Write("a", make([]byte, 100))
			d.Rename("a", "")
			if d.Write("b", []byte("ef")) == api.OK {
				made++
			}
		}
		ops := 0
		for _, d := range l {
			ops += d.Ops() - 3
			if d.Up() != (tried <= n) {
				t.Errorf("up %v behind %d of %d changes", d.Up(), tried, n)
			}
		}
		if made != min(n, tried) || ops != made {
			t.Errorf("%d changes, %d counted, of %d by a fuse of %d", made, ops, tried, n)
		}
	}
}

// Memory

const mark = 0xa5

// roomy is a copy of bytes with spare room, which is marked.
func roomy(s string) []byte {
	room := append([]byte(s), bytes.Repeat([]byte{mark}, 64)...)
	return room[:len(s):len(room)]
}

// untouched tells whether bytes are as they were, and their spare room, too.
func untouched(b []byte, was string) bool {
	room := b[:cap(b)][len(b):]
	return string(b) == was && bytes.Count(room, []byte{mark}) == len(room)
}

// fill writes all over bytes and their spare room.
func fill(b []byte, c byte) {
	b = b[:cap(b)]
	for i := range b {
		b[i] = c
	}
}

func TestBytesAreNotKept(t *testing.T) {
	for _, text := range []string{"", "1", "abcd", "12345678"} {
		d := made(t, 10)
		b := roomy(text)
		want(t, "Write", d.Write("x", b), api.OK)
		d.Turn("x", 0, 255)
		d.Turn("x", 0, 255)
		d.Write("y", b[:0])
		d.Write("z", append(b[:len(b):len(b)], make([]byte, 20)...))
		d.Write("", b)
		if !untouched(b, text) {
			t.Errorf("Write of %q changed it", text)
		}
		d.Turn("x", 0, 255)
		if !untouched(b, text) {
			t.Errorf("Turn changed what was written as %q", text)
		}
		d.Turn("x", 0, 255)
		fill(b, 7)
		wantRead(t, d, "x", text, api.OK)
	}
}

func TestBytesReadAreTheirOwn(t *testing.T) {
	d := sample(t)
	for range 2 {
		first, _ := d.Read("a")
		second, _ := d.Read("a")
		fill(first, 7)
		if string(second) != "abcd" {
			t.Error("two answers are one")
		}
		wantRead(t, d, "a", "abcd", api.OK)
		d.Turn("a", 1, 255)
		if string(second) != "abcd" {
			t.Error("an answer is turned")
		}
		d.Turn("a", 1, 255)
		c := d.Clone()
		third, _ := c.Read("a")
		fill(third, 9)
		wantRead(t, c, "a", "abcd", api.OK)
		wantRead(t, d, "a", "abcd", api.OK)
	}
	wantStand(t, "behind what was done to answers", d, sampleStand())
}

func TestNamesAreTheirOwn(t *testing.T) {
	d := sample(t)
	d.Write("c", nil)
	for range 2 {
		l, _ := d.List("")
		loose := d.Loose()
		for _, some := range [][]string{l, loose} {
			some = some[:cap(some)]
			for i := range some {
				some[i] = "z"
			}
		}
		wantList(t, d, "", "a", "b", "c")
		wantLoose(t, d, "b", "c")
	}
	l, _ := d.List("")
	loose := d.Loose()
	d.Delete("a")
	d.Crash(nil)
	if !slices.Equal(l, []string{"a", "b", "c"}) || !slices.Equal(loose, []string{"b", "c"}) {
		t.Error("an answer follows the drive", l, loose)
	}
}

func TestKeepsAndDrivesAreNotKept(t *testing.T) {
	keeps := []bool{true, false, true, true, true}
	a, b, c := sample(t), sample(t), sample(t)
	a.Write("d", nil)
	// Spare room says that the third one is kept: it is not read.
	a.Write("e", nil)
	a.Crash(keeps[:2])
	wantList(t, a, "", "a", "b")
	if !slices.Equal(keeps, []bool{true, false, true, true, true}) {
		t.Error("Crash changed", keeps)
	}
	l := drives{a, b, c}
	want(t, "Fuse", drive.Fuse(l[:2], 1), api.OK)
	if l[0] != a || l[1] != b || l[2] != c {
		t.Error("Fuse changed its drives")
	}
	l[0], l[1] = c, c
	want(t, "Sync without a fuse", c.Sync("a"), api.OK)
	want(t, "Sync", a.Sync("a"), api.OK)
	want(t, "Sync beyond the fuse", b.Sync("a"), api.ErrBroken)
	if a.Up() || b.Up() || !c.Up() {
		t.Error("a fuse follows the list of its drives")
	}
}
