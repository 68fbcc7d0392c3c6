package format_test

import (
	"bytes"
	"slices"
	"testing"

	"stowage/api"
	"stowage/format"
)

// What stands in spare room.
const (
	spare = 0xAB
	room  = 48
)

// spareCopy is a copy that would be told as Silent if it were looked at.
var spareCopy = api.Copy{Err: api.ErrOffline}

// roomyBytes are a copy of bytes with marked room behind it.
func roomyBytes(b []byte) []byte {
	all := slices.Concat(b, bytes.Repeat([]byte{spare}, room))
	return all[:len(b):len(all)]
}

// roomy are copies with marked room behind each of their bytes, and behind all.
func roomy(l []api.Copy) []api.Copy {
	all := slices.Concat(l, slices.Repeat([]api.Copy{spareCopy}, room))
	for i, c := range l {
		all[i].B = roomyBytes(c.B)
	}
	return all[:len(l):len(all)]
}

// behind is the spare room of a list.
func behind[T any](l []T) []T { return l[:cap(l)][len(l):] }

// fill writes all over a list and its spare room.
func fill[T any](l []T, v T) {
	l = l[:cap(l)]
	for i := range l {
		l[i] = v
	}
}

// untouchedBytes tells whether bytes are as they were, and their room, too.
func untouchedBytes(b, was []byte) bool {
	return bytes.Equal(b, was) && bytes.Equal(behind(b), bytes.Repeat([]byte{spare}, room))
}

// untouched tells so of copies.
func untouched(l, was []api.Copy) bool {
	for i, c := range l {
		if c.Err != was[i].Err || !untouchedBytes(c.B, was[i].B) {
			return false
		}
	}
	for _, c := range behind(l) {
		if c.Err != spareCopy.Err || c.B != nil {
			return false
		}
	}
	return len(l) == len(was)
}

// everyBytes are bytes that are read, and such as are refused.
func everyBytes() [][]byte {
	var all [][]byte
	for _, n := range someFormats() {
		all = append(all, written(n), written(n)[:20])
		for _, b := range litter(n) {
			all = append(all, b)
		}
	}
	return all
}

// everyList are copies of all kinds, with their shape.
func everyList() map[[3]int][][]api.Copy {
	all := map[[3]int][][]api.Copy{}
	for _, s := range append(someShapes(), [3]int{0, 1, 1}, [3]int{8, 9, 1}, [3]int{1, 1, 5}) {
		all[s] = [][]api.Copy{nil, {}, make([]api.Copy, 4), make([]api.Copy, 6)}
		if !shapeMayBe(s[0], s[1], s[2]) {
			continue
		}
		own := owns(s[0], s[1], s[2])
		moved := slices.Concat(own[1:], own[:1])
		missing, offline, turned := slices.Clone(own), slices.Clone(own), slices.Clone(own)
		missing[0].Err, offline[0].Err = api.ErrMissing, api.ErrOffline
		turned[0].B = litter(formats(s[0], s[1], s[2])[0])["a number is turned"]
		all[s] = append(all[s], own, own[:len(own)-1], moved, missing, offline, turned)
	}
	return all
}

// TestNothingIsChanged: what is handed in is as it was behind each call, and its spare room is neither read nor written.
func TestNothingIsChanged(t *testing.T) {
	may := known()
	for _, was := range everyBytes() {
		b := roomyBytes(was)
		wanted, err := modelRead(was, may)
		wantRead(t, "spare room", b, wanted, err)
		if !untouchedBytes(b, was) {
			t.Errorf("Read changed something: %v", was)
		}
	}
	for s, lists := range everyList() {
		for _, was := range lists {
			l := roomy(was)
			wanted, err := modelJudge(was, s[0], s[1], s[2], may)
			wantJudge(t, "spare room", l, s, wanted, err)
			if !untouched(l, was) {
				t.Errorf("Judge changed something: %s, %v", shown(was), s)
			}
		}
	}
}

// TestListsThatEndEarly: bytes and copies that go on in their room are taken as far as they go.
func TestListsThatEndEarly(t *testing.T) {
	n := numbers{2, 1, 2, 1, 2}
	whole := written(n)
	wantRead(t, "the last byte is in the room", whole[:39], numbers{}, api.ErrBytes)
	wantRead(t, "more is in the room", append(whole, 7, 7, 7)[:40], n, api.OK)
	s := [3]int{2, 1, 2}
	l := owns(2, 1, 2)
	wantJudge(t, "the last copy is in the room", l[:5], s, nil, api.ErrArg)
	wantJudge(t, "more is in the room", append(l, api.Copy{}, spareCopy)[:6], s, []int{2, 2, 2, 2, 2, 2}, api.OK)
}

// TestBytesAreTheirOwn: what is written into an answer, or its room, later is not seen in another one.
func TestBytesAreTheirOwn(t *testing.T) {
	for _, n := range someFormats() {
		one, _ := format.Bytes(of(n))
		two, _ := format.Bytes(of(n))
		fill(one, 9)
		if !bytes.Equal(two, written(n)) {
			t.Errorf("what Bytes answers is not its own: %v", n)
		}
		wantBytes(t, n, written(n), api.OK)
	}
}

// TestReadIsItsOwn: what is read does not follow what was handed in, nor does that follow it.
func TestReadIsItsOwn(t *testing.T) {
	for _, n := range someFormats() {
		b := roomyBytes(written(n))
		f, _ := format.Read(b)
		other := f
		other.K, other.Drive = 99, 99
		if !untouchedBytes(b, written(n)) {
			t.Errorf("what was handed in follows what is read: %v", n)
		}
		fill(b, 9)
		if f != of(n) {
			t.Errorf("what is read follows what was handed in: %v", n)
		}
	}
}

// TestAllIsItsOwn: formats of one answer are not those of another one.
func TestAllIsItsOwn(t *testing.T) {
	for _, s := range someShapes() {
		wanted, _ := modelAll(s[0], s[1], s[2])
		one, _ := format.All(s[0], s[1], s[2])
		two, _ := format.All(s[0], s[1], s[2])
		fill(one, api.Format{K: -1})
		if !slices.Equal(two, wanted) {
			t.Errorf("what All answers is not its own: %v", s)
		}
		wantAll(t, s[0], s[1], s[2], wanted, api.OK)
	}
}

// TestStatesAreTheirOwn: what is written into one later is not seen in what was handed in, nor in another answer, nor the other way round.
func TestStatesAreTheirOwn(t *testing.T) {
	may := known()
	for s, lists := range everyList() {
		for _, was := range lists {
			l := roomy(was)
			wanted, wantedErr := modelJudge(was, s[0], s[1], s[2], may)
			one, _ := format.Judge(l, s[0], s[1], s[2])
			two, err := format.Judge(l, s[0], s[1], s[2])
			fill(one, 9)
			if !untouched(l, was) || !slices.Equal(two, wanted) || err != wantedErr {
				t.Errorf("what Judge answers is not its own: %s, %v", shown(was), s)
			}
			for _, c := range l {
				fill(c.B, 9)
			}
			fill(l, api.Copy{Err: -9})
			if !slices.Equal(two, wanted) {
				t.Errorf("what Judge answers follows what was handed in: %s, %v", shown(was), s)
			}
		}
	}
}

// TestSharedBytes: drives may be told by the same bytes, each is held against its own place.
func TestSharedBytes(t *testing.T) {
	b := roomyBytes(written(numbers{2, 1, 2, 1, 0}))
	was := bytes.Clone(b)
	l := slices.Repeat([]api.Copy{{B: b}}, 6)
	wantJudge(t, "one format on all", l, [3]int{2, 1, 2}, []int{3, 3, 3, 2, 3, 3}, api.OK)
	if !untouchedBytes(b, was) {
		t.Error("the bytes were changed")
	}
}

// TestNothingIsKept: an answer follows what is handed in now, not what stood there earlier.
func TestNothingIsKept(t *testing.T) {
	b := written(numbers{1, 1, 1, 0, 0})
	wantRead(t, "first", b, numbers{1, 1, 1, 0, 0}, api.OK)
	copy(b, written(numbers{1, 1, 1, 0, 1}))
	wantRead(t, "then", b, numbers{1, 1, 1, 0, 1}, api.OK)
	l := owns(1, 1, 1)
	wantJudge(t, "first", l, [3]int{1, 1, 1}, []int{2, 2}, api.OK)
	copy(l[0].B, l[1].B)
	wantJudge(t, "then", l, [3]int{1, 1, 1}, []int{3, 2}, api.OK)
	l[0].Err = api.ErrOffline
	wantJudge(t, "at last", l, [3]int{1, 1, 1}, []int{4, 2}, api.OK)
}
