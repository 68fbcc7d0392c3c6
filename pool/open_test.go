package pool_test

import (
	"fmt"
	"math"
	"slices"
	"strings"
	"testing"

	"stowage/api"
	"stowage/drive"
	"stowage/journal"
	"stowage/pool"
)

// wantOpen asks for a pool, or for an error and none, and for drives that are as they were beside the errors that are told ahead of all changes.
func wantOpen(t *testing.T, what string, l drives, s shape, wanted api.Errno) *pool.Pool {
	t.Helper()
	was := clones(l)
	p, err := pool.Open(l, s.k, s.m, s.sets)
	if err != wanted || (p != nil) != (wanted == api.OK) {
		t.Errorf("%s: Open of %d drives, %v: %v, %v; want %v", what, len(l), s, p != nil, err, wanted)
	}
	if wanted != api.OK {
		for i, d := range was {
			if d != nil {
				wantDrives(t, what, l[i:i+1], was[i:i+1])
			}
		}
	}
	return p
}

// someShapes are of few drives.
func someShapes() []shape {
	return []shape{{1, 1, 1}, {1, 1, 2}, {2, 1, 2}, {1, 2, 2}, {2, 2, 1}, {2, 1, 3}, {1, 1, 4}}
}

// greatShapes are of as many drives as may be.
func greatShapes() []shape { return []shape{{8, 8, 4}, {15, 1, 4}, {1, 15, 3}} }

// TestOpen: all that may be are opened, with just as many drives; each drive has its place's format and its set's boot file then, and no more.
func TestOpen(t *testing.T) {
	for k := -1; k <= 17; k++ {
		for m := -1; m <= 17; m++ {
			for sets := -1; sets <= 5; sets++ {
				s := shape{k, m, sets}
				if !s.mayBe() {
					wantOpen(t, "they may not be", made(t, max(0, s.all()), 1000), s, api.ErrArg)
					continue
				}
				l := made(t, s.all(), 1000)
				p := wantOpen(t, "they may be", l, s, api.OK)
				wantSize(t, p, s)
				own := s.formats()
				for i, d := range l {
					if names := namesOf(d); !slices.Equal(names, []string{"boot", "format"}) || filesOf(d)["format"] != (file{b: string(own[i])}) || bootOf(d) != 1 {
						t.Errorf("%v: drive %d has %s", s, i, shown(filesOf(d)))
					}
				}
			}
		}
	}
}

// wantSize asks for what Size tells.
func wantSize(t *testing.T, p *pool.Pool, s shape) {
	t.Helper()
	if k, m, sets := p.Size(); s != (shape{k, m, sets}) {
		t.Errorf("Size: %d, %d, %d; want %v", k, m, sets, s)
	}
}

// TestOpenCounts: too few drives, too many, none.
func TestOpenCounts(t *testing.T) {
	for _, s := range slices.Concat(someShapes(), greatShapes()) {
		for n := range s.all() + 4 {
			if n != s.all() {
				wantOpen(t, "another count", made(t, n, 1000), s, api.ErrArg)
			}
		}
		wantOpen(t, "no list", nil, s, api.ErrArg)
		wantOpen(t, "far too many", made(t, 300, 10), s, api.ErrArg)
	}
}

// wildNumbers are far from what may be, some of them by what is left of them in fewer bits.
func wildNumbers() []int {
	return []int{math.MinInt, math.MinInt + 1, math.MinInt32, -1<<32 + 1, -256, -2, -1, 0, 18, 255, 256, 257, 258, 1<<16 + 1, math.MaxInt32, 1<<32 + 1, 1<<32 + 2, math.MaxInt - 1, math.MaxInt}
}

// TestOpenWild: k, m and sets at the least and the greatest number, alone and together.
func TestOpenWild(t *testing.T) {
	for _, n := range []int{0, 1, 2, 4, 16, 64} {
		l := made(t, n, 1000)
		for _, a := range wildNumbers() {
			for _, s := range []shape{{a, 1, 1}, {1, a, 1}, {1, 1, a}, {a, a, 1}, {a, -a, 1}, {a, 2 - a, 1}, {a, 1, a}, {a, a, a}, {2, 2, a}} {
				wantOpen(t, "wild", l, s, api.ErrArg)
			}
		}
	}
}

// TestOpenOfNone: a drive that is none is told ahead of all else, wherever it is.
func TestOpenOfNone(t *testing.T) {
	for _, n := range []int{1, 2, 3, 4, 16, 64, 65, 200} {
		l := made(t, n, 1000)
		copied := *l[0]
		for what, none := range map[string]*drive.Drive{"nil": nil, "new": new(drive.Drive), "a copy": &copied} {
			for at := range n {
				with := slices.Clone(l)
				with[at] = none
				for _, s := range []shape{{1, 1, 1}, {1, 1, 2}, {8, 8, 1}, {8, 8, 4}, {0, 0, 0}, {-1, math.MaxInt, 5}} {
					p, err := pool.Open(with, s.k, s.m, s.sets)
					if p != nil || err != api.ErrNil {
						t.Fatalf("%s is drive %d of %d: Open of %v: %v, %v", what, at, n, s, p != nil, err)
					}
				}
			}
		}
		for i, d := range l {
			if d.Ops() != 0 {
				t.Errorf("%d drives, one of them none: drive %d was changed", n, i)
			}
		}
	}
}

// TestOpenOrder: which of several errors is told, each drive being in a set of its own: ErrNil, ErrArg, ErrBroken, ErrState, ErrQuorum.
func TestOpenOrder(t *testing.T) {
	s := shape{2, 1, 3}
	begun, _ := fresh(t, s)
	for _, sets := range [][3]int{{0, 1, 2}, {0, 2, 1}, {1, 0, 2}, {1, 2, 0}, {2, 0, 1}, {2, 1, 0}} {
		for _, faults := range choices(5) {
			l, asked, wanted := clones(begun), s, api.OK
			// The last one that is brought about is the one that is told.
			for _, fault := range slices.Backward(faults) {
				switch fault {
				case 0:
					l[0], wanted = nil, api.ErrNil
				case 1:
					asked, wanted = shape{2, 1, 4}, api.ErrArg
				case 2:
					out(l, s.places(sets[0])[1])
					wanted = api.ErrBroken
				case 3:
					raw(t, l[s.places(sets[1])[2]], "format", written(2, 1, 3, sets[1], 0))
					wanted = api.ErrState
				case 4:
					away(l, s.places(sets[2])[:2]...)
					wanted = api.ErrQuorum
				}
			}
			what := fmt.Sprint("faults ", faults, " of sets ", sets)
			if l[0] == nil {
				p, err := pool.Open(l, asked.k, asked.m, asked.sets)
				if p != nil || err != wanted {
					t.Errorf("%s: %v, %v", what, p != nil, err)
				}
				continue
			}
			wantOpen(t, what, l, asked, wanted)
		}
	}
}

// TestOpenOrderOfOneSet: likewise, of drives of one set, and of one drive of which several things are true.
func TestOpenOrderOfOneSet(t *testing.T) {
	s := shape{2, 2, 1}
	begun, _ := fresh(t, s)
	for at := range 4 {
		l := clones(begun)
		raw(t, l[at], "format", s.formats()[(at+1)%4])
		wantOpen(t, "another one's", clones(l), s, api.ErrState)
		away(l, (at+1)%4, (at+2)%4)
		wantOpen(t, "another one's, two away", clones(l), s, api.ErrState)
		away(l, (at+3)%4)
		wantOpen(t, "another one's, three away", clones(l), s, api.ErrState)
		away(l, at)
		wantOpen(t, "all away", clones(l), s, api.ErrQuorum)
		l[at].Offline(false)
		out(l, at)
		wantOpen(t, "it is out", l, s, api.ErrBroken)
		l[at].Offline(true)
		wantOpen(t, "it is out and away", l, s, api.ErrBroken)
	}
}

// litter is what a drive may have that is read as no format.
func litter(own []byte) map[string][]byte {
	turned, sum, sign := slices.Clone(own), slices.Clone(own), slices.Clone(own)
	turned[7] ^= 1
	sum[39] ^= 128
	sign[0] = 's'
	return map[string][]byte{
		"empty": nil, "39 bytes": own[:39], "41 bytes": append(slices.Clone(own), 0), "noughts": make([]byte, 40), "a number is turned": turned, "the digest is turned": sum, "another sign": sign,
		"none that may be": written(2, 1, 2, 2, 0), "a drive too many": written(2, 1, 2, 0, 3), "no sets": written(2, 1, 0, 0, 0), "far too long": make([]byte, 5000),
	}
}

// strange are formats that are other ones than the own: another drive's, another set's, of other numbers.
func strange(s shape, at int) map[string][]byte {
	all := map[string][]byte{}
	for i, b := range s.formats() {
		if i != at {
			all[fmt.Sprint("the format of ", i)] = b
		}
	}
	set, place := at/s.each(), at%s.each()
	all["more data"] = written(s.k+1, s.m, s.sets, set, place)
	all["more parity"] = written(s.k, s.m+1, s.sets, set, place)
	all["k and m exchanged"] = written(s.m, s.k+1, s.sets, set, place)
	all["more sets"] = written(s.k, s.m, s.sets+1, set, place)
	return all
}

// TestOpenLitter: a format that is missing or not read is written anew, at each place, and on all at once.
func TestOpenLitter(t *testing.T) {
	s := shape{2, 1, 2}
	begun, p := fresh(t, s)
	must(t, p, put("p000", version("x", 1), []byte("abc")))
	own := s.formats()
	wantGiven := func(what string, l drives) {
		t.Helper()
		ops := make([]int, len(l))
		for i, d := range l {
			ops[i] = d.Ops()
		}
		p, err := opens(t, what, l, s, nil)
		want(t, what, err, api.OK)
		reads(t, what, p, "p000", "x", []byte("abc"))
		for i, d := range l {
			if filesOf(d)["format"] != (file{b: string(own[i])}) {
				t.Errorf("%s: drive %d has %s", what, i, shown(filesOf(d)))
			}
			if n := d.Ops() - ops[i]; n != 3 && n != 6 {
				t.Errorf("%s: drive %d made %d changes", what, i, n)
			}
		}
	}
	for what, b := range litter(own[0]) {
		for at := range s.all() {
			l := clones(begun)
			raw(t, l[at], "format", b)
			wantGiven(fmt.Sprint(what, " on ", at), l)
		}
		l := clones(begun)
		for _, d := range l {
			raw(t, d, "format", b)
		}
		wantGiven(what+" on all", l)
	}
	for at := range s.all() {
		l := clones(begun)
		l[at].Delete("format")
		wantGiven(fmt.Sprint("none on ", at), l)
		for i := range 40 {
			l := clones(begun)
			l[at].Turn("format", i, 1<<(i%8))
			wantGiven(fmt.Sprint("byte ", i, " turned on ", at), l)
		}
	}
}

// TestOpenStrange: another format is told, whatever the others' are, and nothing is changed: none is given where there is none.
func TestOpenStrange(t *testing.T) {
	for _, s := range []shape{{2, 1, 2}, {1, 1, 1}} {
		begun, _ := fresh(t, s)
		for at := range s.all() {
			for what, b := range strange(s, at) {
				for _, bare := range []bool{false, true} {
					l := clones(begun)
					if bare {
						l = made(t, s.all(), 1<<20)
					}
					raw(t, l[at], "format", b)
					wantOpen(t, fmt.Sprint(what, " on ", at, ", others without: ", bare), l, s, api.ErrState)
				}
			}
		}
		for i := range s.all() {
			for j := range i {
				l := clones(begun)
				l[i], l[j] = l[j], l[i]
				wantOpen(t, fmt.Sprint(i, " and ", j, " are exchanged"), l, s, api.ErrState)
			}
		}
	}
	l, _ := fresh(t, shape{2, 2, 2})
	for _, s := range []shape{{1, 3, 2}, {3, 1, 2}, {1, 1, 4}, {4, 4, 1}} {
		wantOpen(t, "they are of 2, 2, 2", l, s, api.ErrState)
	}
}

// TestOpenAway: any drives are offline, with formats or without: k of each set suffice; those that answer are given what they lack, the others are left as they were.
func TestOpenAway(t *testing.T) {
	for _, s := range []shape{{2, 1, 2}, {1, 2, 2}, {3, 3, 1}, {1, 1, 3}} {
		with, _ := fresh(t, s)
		for _, begun := range []drives{with, made(t, s.all(), 1000)} {
			for _, gone := range choices(s.all()) {
				answering := slices.Repeat([]int{s.each()}, s.sets)
				for _, i := range gone {
					answering[i/s.each()]--
				}
				l := clones(begun)
				away(l, gone...)
				what := fmt.Sprint(gone, " away")
				if slices.Min(answering) < s.k {
					wantOpen(t, what, l, s, api.ErrQuorum)
					continue
				}
				was := clones(l)
				_, err := opens(t, what, l, s, nil)
				want(t, what, err, api.OK)
				for i, d := range l {
					if slices.Contains(gone, i) {
						wantDrives(t, what, l[i:i+1], was[i:i+1])
					} else if !slices.Equal(namesOf(d), []string{"boot", "format"}) {
						t.Errorf("%s: drive %d has %s", what, i, shown(filesOf(d)))
					}
				}
			}
		}
	}
}

// TestOpenBack: drives that were away, and without formats, are given them when all is opened anew.
func TestOpenBack(t *testing.T) {
	s := shape{2, 1, 2}
	l := made(t, s.all(), 1000)
	away(l, 1, 5)
	opened(t, l, s)
	back(l)
	_, err := opens(t, "back", l, s, nil)
	want(t, "back", err, api.OK)
	for i, d := range l {
		if filesOf(d)["format"].b != string(s.formats()[i]) {
			t.Errorf("drive %d has %s", i, shown(filesOf(d)))
		}
	}
}

// TestOpenFull: any drives are full, have no room, or both: that they take no format stops nobody.
func TestOpenFull(t *testing.T) {
	s := shape{1, 2, 2}
	for _, size := range []int{39, 40, 79, 80, 1000} {
		for _, full := range choices(s.all()) {
			l := slices.Concat(made(t, 3, size), made(t, 3, 1000))
			// What is staged of a format on a drive that takes none is let go of.
			raw(t, l[0], "tmp/format", []byte("x"))
			for _, d := range some(l, full) {
				d.Full(true)
			}
			what := fmt.Sprint(size, " bytes, ", full, " full")
			_, err := opens(t, what, l, s, nil)
			want(t, what, err, api.OK)
			for i, d := range l {
				_, given := filesOf(d)["format"]
				if room := i >= 3 || size >= 40; given != (room && !slices.Contains(full, i)) {
					t.Errorf("%s: drive %d has %s", what, i, shown(filesOf(d)))
				}
			}
			back(l)
			_, err = opens(t, what+", then not", l, s, nil)
			want(t, what+", then not", err, api.OK)
		}
	}
}

// TestOpenOut: a drive that is out is told, wherever it is and whatever it has, and nothing is changed.
func TestOpenOut(t *testing.T) {
	for _, s := range someShapes() {
		with, _ := fresh(t, s)
		for _, begun := range []drives{with, made(t, s.all(), 1000)} {
			for at := range s.all() {
				l := clones(begun)
				out(l, at)
				wantOpen(t, fmt.Sprint(at, " is out"), l, s, api.ErrBroken)
			}
		}
	}
}

// starts are drives ahead of an opening that has much to do: none has a format; some have; all have, and staged files, and such as no journal tells of.
func starts(t *testing.T, s shape) map[string]drives {
	t.Helper()
	half := made(t, s.all(), 1<<20)
	full := made(t, s.all(), 1<<20)
	for i, d := range full {
		if i%2 == 1 {
			d.Full(true)
		}
	}
	left, p := fresh(t, s)
	for i, path := range slices.Concat(pathsOf(s.sets, 2)...) {
		must(t, p, put(path, version("x", i), text(40, i)))
	}
	j, _ := journal.Add(api.Journal{Seq: 1}, whole(version("y", 77), []byte("abc"), s))
	b, _ := journal.Bytes(j)
	for i, d := range left {
		if i%2 == 0 {
			raw(t, half[i], "format", s.formats()[i])
		}
		own := pathsOf(s.sets, 2)[i/s.each()]
		raw(t, d, "tmp/j/"+own[0], b)
		raw(t, d, "tmp/s/"+own[0]+"-"+j.Records[0].Data, []byte("staged"))
		raw(t, d, "s/none-"+version("", 5).Data, []byte("of no journal"))
		if i%3 == 0 {
			d.Turn("format", i, 1)
			raw(t, d, "tmp/format", []byte("x"))
		}
	}
	return map[string]drives{"none has a format": made(t, s.all(), 1<<20), "some have": half, "some are full": full, "much is left": left}
}

// TestOpenFuses: a fuse stops each change of Open in turn, on all drives, on each set's, on each one: nothing more is done then, and ErrBroken is told.
func TestOpenFuses(t *testing.T) {
	for _, s := range []shape{{1, 1, 2}, {2, 1, 2}, {1, 2, 1}, {1, 1, 4}} {
		lit := [][]int{s.everywhere(0).places}
		for i := range s.all() {
			lit = append(lit, []int{i})
		}
		for n := range s.sets {
			lit = append(lit, s.places(n))
		}
		for what, begun := range starts(t, s) {
			for _, places := range lit {
				for n := 0; ; n++ {
					l := clones(begun)
					_, err := opens(t, what, l, s, &fuse{places, n})
					stopped := slices.ContainsFunc(l, func(d *drive.Drive) bool { return !d.Up() })
					if stopped != (err == api.ErrBroken) || !stopped && err != api.OK {
						t.Errorf("%s: a fuse of %d on %v: %v, stopped: %v", what, n, places, err, stopped)
					}
					if !stopped {
						break
					}
				}
			}
		}
	}
}

// TestOpenSetBySet: formats are given drive by drive ahead of all else; then set by set is recovered, and the first one's error told.
func TestOpenSetBySet(t *testing.T) {
	s := shape{2, 1, 4}
	for stopped := range s.sets {
		l := made(t, s.all(), 1000)
		// Of each drive of the set the format is three changes, and one more is let by.
		_, err := opens(t, "in its boot files", l, s, &fuse{s.places(stopped), 3*s.each() + 1})
		want(t, "in its boot files", err, api.ErrBroken)
		for i, d := range l {
			has, set := namesOf(d), i/s.each()
			wanted := []string{"format"}
			switch {
			case set < stopped:
				wanted = []string{"boot", "format"}
			case i == s.places(stopped)[0]:
				wanted = []string{"format", "tmp/boot"}
			}
			if !slices.Equal(has, wanted) {
				t.Errorf("set %d is stopped: drive %d has %v; want %v", stopped, i, has, wanted)
			}
		}
		l = made(t, s.all(), 1000)
		_, err = opens(t, "in its formats", l, s, &fuse{s.places(stopped), 1})
		want(t, "in its formats", err, api.ErrBroken)
		for i, d := range l {
			if has := namesOf(d); (i < s.places(stopped)[0]) != slices.Equal(has, []string{"format"}) || slices.Contains(has, "boot") {
				t.Errorf("set %d is stopped in its formats: drive %d has %v", stopped, i, has)
			}
		}
	}
}

// TestOpenRecovers: each set is recovered: what was staged is brought to an end, and what no journal tells of is let go of.
func TestOpenRecovers(t *testing.T) {
	for _, s := range []shape{{1, 1, 1}, {2, 1, 2}, {1, 2, 3}, {1, 1, 4}} {
		l := starts(t, s)["much is left"]
		p, err := opens(t, "much is left", l, s, nil)
		want(t, "much is left", err, api.OK)
		for i, d := range l {
			for _, name := range namesOf(d) {
				if strings.HasPrefix(name, "tmp/") || strings.HasPrefix(name, "s/none") {
					t.Errorf("%v: drive %d has %s", s, i, name)
				}
			}
			if bootOf(d) != 2 {
				t.Errorf("%v: drive %d has the boot number %d", s, i, bootOf(d))
			}
		}
		for set, own := range pathsOf(s.sets, 2) {
			if c, err := p.Look(own[0]); err != api.OK || c.J.Seq != 2 || c.Votes != s.each() {
				t.Errorf("%v: what was staged in set %d: %v, %v", s, set, c, err)
			}
			reads(t, "what was there", p, own[1], "x", text(40, 2*set+1))
		}
	}
}

// TestOpenTwice: two pools of the same drives are as one; each opening counts in the boot files.
func TestOpenTwice(t *testing.T) {
	s := shape{2, 1, 2}
	l, one := fresh(t, s)
	two := opened(t, l, s)
	must(t, one, put("p000", version("x", 1), []byte("abc")))
	reads(t, "the second one", two, "p000", "", []byte("abc"))
	must(t, two, drop("p000", "x"))
	_, _, err := one.Get("p000", "")
	want(t, "the first one", err, api.ErrMissing)
	for n := 3; n < 6; n++ {
		opened(t, l, s)
		for i, d := range l {
			if bootOf(d) != n {
				t.Errorf("opened %d times: drive %d has the boot number %d", n, i, bootOf(d))
			}
		}
	}
}

// TestOpenOneDriveTwice: a drive that stands at two places has the format of the last one of these, so that it is strange when all is opened anew.
func TestOpenOneDriveTwice(t *testing.T) {
	s := shape{1, 1, 2}
	for i := range s.all() {
		for j := range i {
			l := made(t, s.all(), 1000)
			l[i] = l[j]
			wantOpen(t, "without formats", l, s, api.OK)
			if b := filesOf(l[i])["format"].b; b != string(s.formats()[i]) {
				t.Errorf("%d and %d are one: it has %x", j, i, b)
			}
			wantOpen(t, "with formats", l, s, api.ErrState)
		}
	}
}
