package shard_test

import (
	"bytes"
	"math/rand"
	"reflect"
	"slices"
	"testing"

	"stowage/api"
	"stowage/record"
	"stowage/shard"
)

// What stands in spare room.
const (
	spare = 0xAB
	room  = 80
)

var (
	sparePart = api.PartSize{Number: 7777, Size: 8888}
	spareCopy = api.Copy{Err: -5, B: []byte("spare")}
)

// roomyList is a copy of a list with marked room behind it.
func roomyList[T any](l []T, mark T) []T {
	all := slices.Concat(l, slices.Repeat([]T{mark}, room))
	return all[:len(l):len(all)]
}

// behind is the spare room of a list.
func behind[T any](l []T) []T { return l[:cap(l)][len(l):] }

// fill writes all over a list and its spare room.
func fill[T any](l []T, v T) {
	l = l[:cap(l)]
	for i := range l {
		l[i] = v
	}
}

// roomy are copies and a record with spare room behind each list, which is marked.
func roomy(l []api.Copy, r api.Record) ([]api.Copy, api.Record) {
	l = roomyList(l, spareCopy)
	for i, c := range l {
		l[i].B = roomyList(c.B, spare)
	}
	r.Parts = roomyList(r.Parts, sparePart)
	return l, r
}

// clean tells whether the room behind bytes is marked still.
func clean(b []byte) bool { return bytes.Equal(behind(b), bytes.Repeat([]byte{spare}, room)) }

// untouched tells whether copies and a record are as they were, and their spare room, too.
func untouched(l, wasL []api.Copy, r, wasR api.Record) bool {
	for i, c := range l {
		if c.Err != wasL[i].Err || !bytes.Equal(c.B, wasL[i].B) || !clean(c.B) {
			return false
		}
	}
	return len(l) == len(wasL) && reflect.DeepEqual(behind(l), slices.Repeat([]api.Copy{spareCopy}, room)) &&
		record.Same(r, wasR) && slices.Equal(behind(r.Parts), slices.Repeat([]api.PartSize{sparePart}, room))
}

// fillGiven writes all over what was handed in.
func fillGiven(l []api.Copy, r api.Record) {
	for _, c := range l {
		fill(c.B, 9)
	}
	fill(l, api.Copy{Err: -9})
	fill(r.Parts, api.PartSize{Number: -7, Size: -8})
}

// given are copies and records of all kinds: with bytes, with none, and such that are refused.
type given struct {
	l []api.Copy
	r api.Record
}

func everyGiven() []given {
	v := abc()
	parted := record.Copy(v.r)
	parted.Parts = []api.PartSize{{Number: 1, Size: 1}, {Number: 9, Size: 2}}
	wrong, otherSum := v.r, v.r
	wrong.Data, otherSum.Sum[3] = "x", v.r.Sum[3]^1
	none, long := drawnVersion(50, 0, 2, 2), drawnVersion(51, 2000, 3, 2)
	gone := api.Copy{Err: api.ErrMissing}
	all := []given{
		{v.l, v.r}, {v.l, parted}, {v.l, wrong}, {v.l, otherSum}, {v.l[:2], v.r}, {nil, v.r}, {nil, api.Record{}}, {v.l, api.Record{ID: "null", Mark: true}},
		{v.with(0, gone), v.r}, {v.with(2, api.Copy{B: []byte("x")}), v.r}, {[]api.Copy{gone, gone, v.l[2]}, v.r}, {v.with(0, api.Copy{B: v.l[0].B[:33]}), v.r},
		{none.l, none.r}, {long.l, long.r}, {long.with(0, api.Copy{Err: api.ErrOffline, B: long.l[0].B}), long.r}, {long.with(1, api.Copy{B: turned(long.l[1].B, 500, 1)}), long.r},
	}
	r := rand.New(rand.NewSource(52))
	for range 60 {
		l, rec := drawnCase(r)
		all = append(all, given{l, rec})
	}
	return all
}

// TestNothingIsChanged: what is handed in is as it was behind each call, and its spare room is neither read nor written.
func TestNothingIsChanged(t *testing.T) {
	for _, g := range everyGiven() {
		l, r := roomy(g.l, g.r)
		ask(t, "spare room", l, r)
		shard.Part(l, r, 0, 0)
		shard.Part(l, r, 5, 2)
		if !untouched(l, g.l, r, g.r) {
			t.Errorf("something was changed: %s", shown(g.l, g.r))
		}
	}
}

// TestLayChangesNothing: neither the bytes nor their spare room.
func TestLayChangesNothing(t *testing.T) {
	draw := rand.New(rand.NewSource(53))
	for _, n := range []int{0, 1, 3, 4, 5, 100, 255, 256, 257, 2000, most, most + 1} {
		was := drawn(draw, n)
		b := roomyList(was, spare)
		for _, p := range [][2]int{{1, 1}, {2, 1}, {4, 4}, {15, 1}, {16, 1}, {0, 1}} {
			shard.Lay(b, p[0], p[1])
			if !bytes.Equal(b, was) || !clean(b) {
				t.Errorf("Lay of %d bytes changed them, %v", n, p)
			}
		}
	}
}

// TestSpareRoomIsNotRead: what a list, a file or bytes lack stands in the spare room.
func TestSpareRoomIsNotRead(t *testing.T) {
	v := drawnVersion(54, 700, 2, 1)
	wantError(t, "a copy in the room", slices.Clone(v.l)[:2], v.r, api.ErrArg)
	l := v.with(2, api.Copy{Err: api.ErrMissing})
	for _, cut := range []int{0, 1, 31, 32, 288, len(l[0].B) - 1} {
		l[0].B = v.l[0].B[:cut]
		wantError(t, "bytes in the room", l, v.r, api.ErrQuorum)
	}
	for _, n := range []int{0, 1, 2, 3, 5, 299, 699} {
		wantLay(t, v.b[:n], 2, 1)
	}
	long := append(slices.Clone(v.l), v.l...)
	wantRead(t, "more copies in the room", long[:3], v.r, v.b, api.OK)
}

// TestLayIsItsOwn: what is written into a file later is not seen in the bytes, another file or another answer, nor the other way round.
func TestLayIsItsOwn(t *testing.T) {
	draw := rand.New(rand.NewSource(55))
	for _, n := range []int{0, 1, 3, 4, 100, 256, 257, 2000} {
		for _, p := range [][2]int{{1, 1}, {2, 1}, {4, 4}, {15, 1}} {
			was := drawn(draw, n)
			b, wanted := roomyList(was, spare), filesOf(was, p[0], p[1])
			one, _ := shard.Lay(b, p[0], p[1])
			two, _ := shard.Lay(b, p[0], p[1])
			fill(b, 9)
			if !sameLists(one, wanted) || !sameLists(two, wanted) {
				t.Errorf("what Lay answers of %d bytes follows them, %v", n, p)
			}
			b = roomyList(was, spare)
			one, _ = shard.Lay(b, p[0], p[1])
			wantOwnFiles(t, one, wanted)
			if !bytes.Equal(b, was) || !clean(b) || !sameLists(two, wanted) {
				t.Errorf("what Lay answers of %d bytes is theirs, %v", n, p)
			}
		}
	}
}

// wantOwnFiles writes all over one file after the other, and at last over the list, and asks whether those behind are as they were.
func wantOwnFiles(t *testing.T, files, wanted [][]byte) {
	t.Helper()
	for i := range files {
		if !sameLists(files[i:], wanted[i:]) {
			t.Errorf("files share memory: those from %d on", i)
		}
		fill(files[i], 7)
	}
	fill(files, nil)
}

// TestReadAndPartAreTheirOwn: what is written into an answer is not seen in what was handed in, nor in another one, nor the other way round.
func TestReadAndPartAreTheirOwn(t *testing.T) {
	for _, g := range everyGiven() {
		for _, ends := range [][2]int{{0, g.r.Size}, {g.r.Size / 3, g.r.Size / 2}, {1, 1}} {
			l, r := roomy(g.l, g.r)
			read, _ := shard.Read(l, r)
			part, _ := shard.Part(l, r, ends[0], ends[1])
			fill(read, 7)
			fill(part, 8)
			read, readErr := shard.Read(l, r)
			part, partErr := shard.Part(l, r, ends[0], ends[1])
			if !untouched(l, g.l, r, g.r) {
				t.Errorf("an answer is what was handed in: %s", shown(g.l, g.r))
			}
			fillGiven(l, r)
			wantedRead, wantedReadErr := modelRead(g.l, g.r)
			wantedPart, wantedPartErr := modelPart(g.l, g.r, ends[0], ends[1])
			if !bytes.Equal(read, wantedRead) || readErr != wantedReadErr || !bytes.Equal(part, wantedPart) || partErr != wantedPartErr {
				t.Errorf("an answer follows what was handed in: %s", shown(g.l, g.r))
			}
		}
	}
}

// TestMendIsItsOwn: so it is with Mend, whose lists share no memory with each other.
func TestMendIsItsOwn(t *testing.T) {
	for _, g := range everyGiven() {
		l, r := roomy(g.l, g.r)
		wanted, wantedStates, wantedErr := modelMend(g.l, g.r)
		one, oneStates, _ := shard.Mend(l, r)
		two, twoStates, err := shard.Mend(l, r)
		wantOwnFiles(t, one, wanted)
		fill(oneStates, -3)
		if !untouched(l, g.l, r, g.r) {
			t.Errorf("what Mend answers is what was handed in: %s", shown(g.l, g.r))
		}
		fillGiven(l, r)
		if !sameLists(two, wanted) || !slices.Equal(twoStates, wantedStates) || err != wantedErr {
			t.Errorf("what Mend answers follows what was handed in, or another answer: %s", shown(g.l, g.r))
		}
	}
}

// TestSharedBytes: copies may share their bytes; the answers share them with none.
func TestSharedBytes(t *testing.T) {
	v := versionOf(nil, 3, 2)
	b := make([]byte, 0, room)
	l := slices.Repeat([]api.Copy{{B: b}}, 5)
	files, states, err := shard.Mend(l, v.r)
	if len(files) != 5 || !slices.Equal(states, v.states(1)) || err != api.OK {
		t.Fatal(files, states, err)
	}
	for _, file := range files {
		fill(file, 7)
	}
	if bytes.Count(b[:room], []byte{0}) != room {
		t.Error("files share the room of what was handed in")
	}
	// The first file has all bytes, and the second one, given for it, is another one.
	one := versionOf([]byte("abc"), 1, 2)
	same := slices.Repeat([]api.Copy{one.l[0]}, 3)
	ask(t, "one file thrice", same, one.r)
	files, _, _ = shard.Mend(same, one.r)
	wantOwnFiles(t, files, one.files())
	if !bytes.Equal(one.l[0].B, fileOf([]byte("abc"))) {
		t.Error("files share what was handed in")
	}
}
