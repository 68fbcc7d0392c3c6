package erasure_test

import (
	"bytes"
	"fmt"
	"math"
	"slices"
	"strings"
	"testing"

	"stowage/api"
	"stowage/digest"
	"stowage/journal"
	"stowage/record"
	"stowage/shard"
)

// wantLaid asks whether all drives have just the files of these objects, as a write without faults lays them, and no others.
func wantLaid(t *testing.T, what string, l drives, objects map[string]api.Journal, bytesOf map[string][]byte) {
	t.Helper()
	for i, d := range l {
		wanted := map[string]file{}
		for path, j := range objects {
			b, err := journal.Bytes(j)
			if err != api.OK {
				t.Fatalf("%s: no journal: %v", what, err)
			}
			wanted["j/"+path] = file{b: string(b)}
			for _, r := range j.Records {
				if r.Mark {
					continue
				}
				files, err := shard.Lay(bytesOf[r.Data], r.K, r.M)
				if err != api.OK {
					t.Fatalf("%s: no shards: %v", what, err)
				}
				wanted["s/"+path+"-"+r.Data] = file{b: string(files[i])}
			}
		}
		if got := filesOf(d); shown(got) != shown(wanted) || fmt.Sprint(got) != fmt.Sprint(wanted) {
			t.Errorf("%s: drive %d has %s; want %s", what, i, shown(got), shown(wanted))
		}
	}
}

// whole is a record as a set keeps it.
func whole(r api.Record, b []byte, k, m int) api.Record {
	if !r.Mark {
		r.Size, r.K, r.M, r.Sum = len(b), k, m, digest.Sum(b)
	}
	return r
}

// TestPut: sets of all kinds, versions of all sizes: what is told, and what stands on the drives.
func TestPut(t *testing.T) {
	for _, size := range [][2]int{{2, 1}, {3, 1}, {3, 2}, {4, 2}, {7, 3}, {16, 1}, {16, 8}, {16, 15}} {
		n, k := size[0], size[1]
		for _, length := range []int{0, 1, 2, k, 255, 256, 257, 65536} {
			l, s := fresh(t, n, k)
			r, b := version("x", 1), text(length, n)
			got := step(t, "a version", s, l, put("a", r, b), noFuse)
			wanted := whole(r, b, k, n-k)
			if !sameAnswer(got, answer{r: wanted}) {
				t.Errorf("%d bytes on %d of %d: %v; want %v", length, k, n, got, wanted)
			}
			wantLaid(t, "a version", l, map[string]api.Journal{"a": {Seq: 1, Records: []api.Record{wanted}}}, map[string][]byte{r.Data: b})
			reads(t, "a version", s, "a", "x", b)
		}
		l, s := fresh(t, n, k)
		for _, length := range []int{65537, 65538, 100000, 1 << 20} {
			if got := step(t, "too long", s, l, put("a", version("x", 1), make([]byte, length)), noFuse); !sameAnswer(got, answer{err: api.ErrLong}) {
				t.Errorf("%d bytes: %v", length, got)
			}
		}
		if count(l, "") != 0 {
			t.Error("what was too long left files")
		}
	}
}

// TestPutFills: what a caller says of Size, K, M and Sum of a version is not looked at.
func TestPutFills(t *testing.T) {
	for _, wild := range []int{math.MinInt, -1, 0, 1, 5, 16, 1 << 33, math.MaxInt} {
		l, s := fresh(t, 5, 3)
		r := version("x", 1)
		r.Size, r.K, r.M, r.Sum = wild, wild, wild, digest.Sum([]byte("other"))
		got := step(t, "wild", s, l, put("a", r, []byte("abcd")), noFuse)
		if wanted := whole(version("x", 1), []byte("abcd"), 3, 2); !sameAnswer(got, answer{r: wanted}) {
			t.Errorf("%d: %v; want %v", wild, got, wanted)
		}
	}
}

// wrongRecords are records of 3 bytes that may not be, in each field, marks among them.
func wrongRecords() map[string]api.Record {
	all := map[string]api.Record{}
	but := func(what string, change func(r *api.Record)) {
		r := version("x", 1)
		change(&r)
		all[what] = r
	}
	for _, id := range []string{"", "A", "a b", "a-b", "ü", strings.Repeat("a", 33)} {
		but(fmt.Sprintf("the ID %q", id), func(r *api.Record) { r.ID = id })
		but(fmt.Sprintf("a mark of the ID %q", id), func(r *api.Record) { *r = mark(id, 1) })
	}
	for _, time := range []int{-1, math.MinInt, 1<<20 + 1, 1 << 32, math.MaxInt} {
		but(fmt.Sprint("the time ", time), func(r *api.Record) { r.Time = time })
		but(fmt.Sprint("a mark at ", time), func(r *api.Record) { *r = mark("x", time) })
	}
	for _, tag := range []string{"", "g", "A", strings.Repeat("0", 41)} {
		but(fmt.Sprintf("the tag %q", tag), func(r *api.Record) { r.ETag = tag })
	}
	for _, data := range []string{"", "0", strings.Repeat("0", 31), strings.Repeat("0", 33), strings.Repeat("A", 32), strings.Repeat("g", 32), strings.Repeat(" ", 32)} {
		but(fmt.Sprintf("the data %q", data), func(r *api.Record) { r.Data = data })
	}
	for _, up := range []string{"A", "-", strings.Repeat("u", 33)} {
		but(fmt.Sprintf("the upload %q", up), func(r *api.Record) { r.Up = up })
	}
	for _, parts := range [][]api.PartSize{{{Number: 1, Size: 2}}, {{Number: 1, Size: 4}}, {{Number: 0, Size: 3}}, {{Number: 10001, Size: 3}}, {{Number: 2, Size: 1}, {Number: 1, Size: 2}}, {{Number: 1, Size: 1}, {Number: 1, Size: 2}}, {{Number: 1, Size: -1}, {Number: 2, Size: 4}}, {{Number: 1, Size: math.MaxInt}, {Number: 2, Size: 4}}} {
		but(fmt.Sprint("the parts ", parts), func(r *api.Record) { r.Parts = parts })
	}
	but("too many parts", func(r *api.Record) {
		for i := range 33 {
			r.Parts = append(r.Parts, api.PartSize{Number: i + 1, Size: i / 30})
		}
	})
	return all
}

// wrongMarks are marks with something that a mark has not.
func wrongMarks() map[string]api.Record {
	all := map[string]api.Record{}
	but := func(what string, change func(r *api.Record)) {
		r := mark("x", 1)
		change(&r)
		all[what] = r
	}
	but("Size", func(r *api.Record) { r.Size = 1 })
	but("ETag", func(r *api.Record) { r.ETag = "0" })
	but("K", func(r *api.Record) { r.K = 2 })
	but("M", func(r *api.Record) { r.M = 1 })
	but("Data", func(r *api.Record) { r.Data = version("x", 1).Data })
	but("Sum", func(r *api.Record) { r.Sum[31] = 1 })
	but("Parts", func(r *api.Record) { r.Parts = []api.PartSize{{Number: 1}} })
	but("Up", func(r *api.Record) { r.Up = "u" })
	return all
}

// TestPutWrong: records that may not be change nothing, whether there is an object or not.
func TestPutWrong(t *testing.T) {
	l, s := fresh(t, 3, 2)
	must(t, s, put("a", version("v", 7), []byte("abc")))
	was := clones(l)
	refuse := func(what string, r api.Record, b []byte) {
		t.Helper()
		for _, path := range []string{"a", "b"} {
			if got := step(t, what, s, l, put(path, r, b), noFuse); !sameAnswer(got, answer{err: api.ErrArg}) {
				t.Errorf("%s: %v", what, got)
			}
		}
	}
	for what, r := range wrongRecords() {
		b := []byte("abc")
		if r.Mark {
			b = nil
		}
		refuse(what, r, b)
	}
	for what, r := range wrongMarks() {
		refuse("a mark with "+what, r, nil)
	}
	for _, n := range []int{1, 2, 1000, 65536} {
		refuse("a mark with bytes", mark("x", 1), make([]byte, n))
	}
	wantDrives(t, "what was refused", l, was)
}

// TestPutRight: records at their edges are kept as they are.
func TestPutRight(t *testing.T) {
	l, s := fresh(t, 3, 2)
	most := version(strings.Repeat("z", 32), 1<<20)
	most.ETag, most.Up, most.Data = strings.Repeat("f", 37)+"-32", strings.Repeat("9", 32), strings.Repeat("f", 32)
	for i := range 32 {
		most.Parts = append(most.Parts, api.PartSize{Number: 9969 + i, Size: i})
	}
	b := text(31*16, 1)
	least := api.Record{ID: "0", ETag: "-", Data: strings.Repeat("0", 32)}
	for _, c := range []call{put("a", most, b), put("a", least, nil), put("a", mark("a", 0), nil), put("a", mark("b", 1<<20), []byte{}), put("a", version("c", 1), []byte{})} {
		got := step(t, "at the edges", s, l, c, noFuse)
		if !sameAnswer(got, answer{r: whole(c.r, c.b, 2, 1)}) {
			t.Errorf("%v: %v", c, got)
		}
	}
	c, err := s.Look("a")
	if err != api.OK || len(c.J.Records) != 5 || !record.Same(c.J.Records[4], whole(most, b, 2, 1)) {
		t.Errorf("what is kept: %v, %v", c.J, err)
	}
}

// TestPutThere: a data name that any version of the object has is taken; a mark has none; another object's is no matter.
func TestPutThere(t *testing.T) {
	l, s := fresh(t, 3, 2)
	must(t, s, put("a", version("x", 1), []byte("1")), put("a", mark("m", 2), nil), put("a", version("y", 3), []byte("3")))
	was := clones(l)
	for _, data := range []int{1, 3} {
		for _, id := range []string{"x", "y", "m", "new"} {
			if got := step(t, "it is there", s, l, put("a", version(id, data), []byte("1")), noFuse); !sameAnswer(got, answer{err: api.ErrThere}) {
				t.Errorf("%s with %d: %v", id, data, got)
			}
		}
	}
	wantDrives(t, "it is there", l, was)
	must(t, s, put("b", version("x", 1), []byte("b")), put("a", mark("n", 5), nil), put("a", mark("o", 5), nil))
	reads(t, "another object", s, "b", "x", []byte("b"))
	// A data name that is dropped, or replaced, is free again.
	must(t, s, drop("a", "x"), put("a", version("new", 1), []byte("again")), put("a", version("new", 4), []byte("then")), put("a", version("x", 1), []byte("last")))
	reads(t, "once more", s, "a", "x", []byte("last"))
}

// TestPutReplaces: a version, or a mark, in the place of another of its ID, at each place: it is the newest one, the others keep their order, and no shard file of what was replaced is left.
func TestPutReplaces(t *testing.T) {
	for _, was := range []bool{false, true} {
		for _, is := range []bool{false, true} {
			for at := range 3 {
				l, s := fresh(t, 4, 2)
				ids := []string{"a", "b", "c"}
				left, texts := []api.Record{}, map[string][]byte{}
				for i, id := range ids {
					r, b := version(id, i), text(i+5, i)
					if i == at && was {
						r, b = mark(id, i), nil
					}
					must(t, s, put("p", r, b))
					if i != at {
						left = slices.Insert(left, 0, whole(r, b, 2, 2))
					}
					texts[r.Data] = b
				}
				r, b := version(ids[at], 9), text(300, 9)
				if is {
					r, b = mark(ids[at], 9), nil
				}
				what := fmt.Sprintf("%d replaced, a mark: %v by %v", at, was, is)
				got := step(t, what, s, l, put("p", r, b), noFuse)
				if !sameAnswer(got, answer{r: whole(r, b, 2, 2)}) {
					t.Errorf("%s: %v", what, got)
				}
				texts[r.Data] = b
				wantLaid(t, what, l, map[string]api.Journal{"p": {Seq: 4, Records: slices.Insert(left, 0, whole(r, b, 2, 2))}}, texts)
			}
		}
	}
}

// TestPutFull: 64 versions are as many as there are; one of an ID that is there may come still.
func TestPutFull(t *testing.T) {
	l, s := fresh(t, 3, 2)
	for i := range 64 {
		r, b := version(fmt.Sprint("v", i), i), text(i, i)
		if i%3 == 0 {
			r, b = mark(fmt.Sprint("v", i), i), nil
		}
		must(t, s, put("a", r, b))
	}
	was := clones(l)
	for _, c := range []call{put("a", version("w", 100), nil), put("a", mark("w", 1), nil), put("a", version("v64", 64), []byte("x"))} {
		if got := step(t, "one more", s, l, c, noFuse); !sameAnswer(got, answer{err: api.ErrFull}) {
			t.Errorf("%v: %v", c, got)
		}
	}
	wantDrives(t, "one more", l, was)
	for i, c := range []call{put("a", version("v0", 100), []byte("0")), put("a", mark("v1", 1), nil), put("a", version("v2", 101), []byte("2")), put("a", mark("v63", 1), nil)} {
		if got := step(t, "one in the place of another", s, l, c, noFuse); got.err != api.OK {
			t.Errorf("%v: %v", c, got)
		}
		if c, _ := s.Look("a"); len(c.J.Records) != 64 || c.J.Seq != 65+i {
			t.Errorf("%d records, Seq %d", len(c.J.Records), c.J.Seq)
		}
	}
	must(t, s, drop("a", "v5"), put("a", version("w", 100+2), nil), put("b", version("w", 100), nil))
	// A journal that was changed as often as may be takes no more.
	last, _ := journal.Bytes(api.Journal{Seq: 1 << 40, Records: []api.Record{whole(version("x", 1), nil, 2, 1)}})
	for _, d := range l {
		raw(t, d, "j/last", last)
	}
	for _, c := range []call{put("last", version("y", 2), nil), put("last", version("x", 2), nil), put("last", mark("x", 2), nil), drop("last", "x")} {
		if got := step(t, "the last Seq", s, l, c, noFuse); !sameAnswer(got, answer{err: api.ErrFull}) {
			t.Errorf("%v: %v", c, got)
		}
	}
	want(t, "the last Seq: none of that ID", step(t, "the last Seq", s, l, drop("last", "y"), noFuse).err, api.ErrMissing)
}

// unable are the ways in which a drive can't be written.
func unable() map[string]func(l drives, i int) {
	return map[string]func(l drives, i int){
		"offline": func(l drives, i int) { l[i].Offline(true) },
		"full":    func(l drives, i int) { l[i].Full(true) },
	}
}

// holdUnable asks for a call, with each choice of drives that can't be written: it is done just if k + 1 others are there.
func holdUnable(t *testing.T, n, k int, begin []call, c call) {
	t.Helper()
	for why, disable := range unable() {
		for _, some := range choices(n) {
			l, s := fresh(t, n, k)
			must(t, s, begin...)
			was := clones(l)
			for _, i := range some {
				disable(l, i)
			}
			what := fmt.Sprintf("%d of %d, %v %s", k, n, some, why)
			got := step(t, what, s, l, c, noFuse)
			wanted := api.OK
			if n-len(some) < k+1 {
				wanted = api.ErrQuorum
			}
			want(t, what+": "+c.String(), got.err, wanted)
			if wanted != api.OK {
				wantFiles(t, what, l, was)
			}
			for _, i := range some {
				for name := range filesOf(l[i]) {
					if strings.HasPrefix(name, "tmp/") {
						t.Errorf("%s: drive %d has %s", what, i, name)
					}
				}
			}
		}
	}
}

// TestPutQuorum: a write is done with k + 1 drives that can be written, and with fewer it is not.
func TestPutQuorum(t *testing.T) {
	begin := []call{put("a", version("x", 1), []byte("abc")), put("a", version("y", 2), []byte("de"))}
	for _, size := range [][2]int{{2, 1}, {3, 1}, {3, 2}, {4, 1}, {4, 2}, {5, 2}} {
		for _, c := range []call{put("a", version("z", 3), []byte("new")), put("a", version("x", 3), []byte("new")), put("a", mark("y", 3), nil), put("b", version("x", 1), nil), put("b", mark("x", 1), nil)} {
			holdUnable(t, size[0], size[1], begin, c)
		}
	}
}

// TestPutNoRoom: drives without room for the shard file, or for the journal behind it, have failed, and keep what they had.
func TestPutNoRoom(t *testing.T) {
	b := text(600, 3)
	for room := range 1200 {
		if room > 40 && room%37 != 0 {
			continue
		}
		for _, tight := range [][]int{{0}, {2}, {1, 3}, {0, 1, 2, 3}} {
			l := made(t, 4, 1<<20)
			s := set(t, l, 2)
			must(t, s, put("a", version("x", 1), []byte("abc")))
			for _, i := range tight {
				d := made(t, 1, l[i].Used()+room+1)[0]
				for name, f := range filesOf(l[i]) {
					raw(t, d, name, []byte(f.b))
				}
				l[i] = d
			}
			s = set(t, l, 2)
			was := clones(l)
			what := fmt.Sprintf("%d bytes left on %v", room+1, tight)
			got := step(t, what, s, l, put("a", version("x", 2), b), noFuse)
			left, reason := []byte("abc"), got.err
			if reason == api.OK {
				left = b
			} else {
				want(t, what, reason, api.ErrQuorum)
				wantFiles(t, what, l, was)
			}
			reads(t, what, s, "a", "", left)
		}
	}
}

// TestPutOnSome: what was laid on k + 1 drives is read when the others are back, and put right there.
func TestPutOnSome(t *testing.T) {
	for _, gone := range choices(5) {
		if len(gone) > 2 {
			continue
		}
		l, s := fresh(t, 5, 2)
		must(t, s, put("a", version("x", 1), text(700, 1)), put("a", version("y", 2), text(300, 2)))
		away(l, gone...)
		must(t, s, put("a", version("x", 3), text(900, 3)))
		back(l)
		c, _ := s.Look("a")
		if c.J.Seq != 3 || c.Votes != 5-len(gone) {
			t.Errorf("%v were away: Seq %d, Votes %d", gone, c.J.Seq, c.Votes)
		}
		reads(t, "back", s, "a", "x", text(900, 3))
		reads(t, "back", s, "a", "y", text(300, 2))
		if n, err := s.Heal("a"); n != 0 || err != api.OK {
			t.Errorf("%v were away: Heal behind Get: %d, %v", gone, n, err)
		}
		// What the others have of the version that was replaced stands there until the set is put right.
		if got := count(l, "s/a-"+version("x", 1).Data); got != len(gone) {
			t.Errorf("%v were away: %d files of what was replaced", gone, got)
		}
		must(t, s, recovers())
		if got := count(l, "s/"); got != 10 {
			t.Errorf("%v were away: %d shard files", gone, got)
		}
	}
}

// TestPutOrder: shard files come ahead of the journal, drive by drive, staged on all ahead of being finished.
func TestPutOrder(t *testing.T) {
	l, s := fresh(t, 2, 1)
	must(t, s, put("a", version("x", 1), []byte("abc")))
	data, other := version("x", 1).Data, version("x", 2).Data
	// What each drive has when so many changes have gone by.
	has := []string{
		"0 j s|0 j s", "0 j s S|0 j s", "0 j s S|0 j s", "0 j s S J|0 j s", "0 j s S J|0 j s",
		"0 j s S J|0 j s S", "0 j s S J|0 j s S", "0 j s S J|0 j s S J", "0 j s S J|0 j s S J",
		"0 j s n J|0 j s S J", "0 j s n|0 j s S J", "0 j s n|0 j s n J", "0 j s n|0 j s n",
		"0 j n|0 j s n", "0 j n|0 j n",
	}
	short := map[string]string{"j/a": "j", "s/a-" + data: "s", "tmp/s/a-" + other: "S", "tmp/j/a": "J", "s/a-" + other: "n"}
	for n, wanted := range has {
		on, got := hold(t, "in order", l, 1, put("a", version("x", 2), []byte("de")), n)
		if err := map[bool]api.Errno{true: api.OK, false: api.ErrBroken}[n == len(has)-1]; got.err != err {
			t.Errorf("behind %d changes: %v", n, got.err)
		}
		var all []string
		for _, d := range on {
			files, line := filesOf(d), "0"
			for _, name := range []string{"j/a", "s/a-" + data, "tmp/s/a-" + other, "s/a-" + other, "tmp/j/a"} {
				if _, there := files[name]; there {
					line += " " + short[name]
				}
			}
			all = append(all, line)
		}
		if line := strings.Join(all, "|"); line != wanted {
			t.Errorf("behind %d changes: %s; want %s", n, line, wanted)
		}
	}
}

// TestPutKeepsNothing: bytes that are changed behind a Put are no matter of what was laid.
func TestPutKeepsNothing(t *testing.T) {
	_, s := fresh(t, 3, 2)
	b := text(500, 1)
	must(t, s, put("a", version("x", 1), b))
	was := bytes.Clone(b)
	clear(b)
	reads(t, "the bytes were cleared", s, "a", "x", was)
}
