package tally_test

import (
	"bytes"
	"math/rand"
	"reflect"
	"slices"
	"testing"

	"stowage/api"
	"stowage/tally"
)

// What stands in spare room.
const (
	spare = 0xAB
	room  = 40
)

// spareCopy is a copy whose journal would count if it were read.
var spareCopy = api.Copy{B: bytesOf(of(1<<30, 1))}

// roomyList is a copy of a list with marked room behind it.
func roomyList[T any](l []T, mark T) []T {
	all := slices.Concat(l, slices.Repeat([]T{mark}, room))
	return all[:len(l):len(all)]
}

// behind is the spare room of a list.
func behind[T any](l []T) []T { return l[:cap(l)][len(l):] }

// fill writes all over a list and its spare room.
func fill[T any](l []T, v T) {
	l = l[:cap(l)]
	for i := range l {
		l[i] = v
	}
}

// roomy are copies with spare room behind each list, which is marked.
func roomy(l []api.Copy) []api.Copy {
	l = roomyList(l, spareCopy)
	for i, c := range l {
		l[i].B = roomyList(c.B, spare)
	}
	return l
}

// untouched tells whether copies are as they were, and their spare room, too.
func untouched(l, was []api.Copy) bool {
	for i, c := range l {
		if c.Err != was[i].Err || !bytes.Equal(c.B, was[i].B) || !bytes.Equal(behind(c.B), bytes.Repeat([]byte{spare}, room)) {
			return false
		}
	}
	return len(l) == len(was) && reflect.DeepEqual(behind(l), slices.Repeat([]api.Copy{spareCopy}, room))
}

// roomyChoice is a choice with spare room behind each list.
func roomyChoice(c api.Choice) api.Choice {
	c = level(c)
	c.B, c.Has = roomyList(c.B, spare), roomyList(c.Has, true)
	c.J.Records = roomyList(c.J.Records, mark("spare", 1))
	return c
}

// untouchedChoice tells whether a choice is as it was, and its spare room, too.
func untouchedChoice(c, was api.Choice) bool {
	return same(c, was) && bytes.Equal(behind(c.B), bytes.Repeat([]byte{spare}, room)) && slices.Equal(behind(c.Has), every(room)) &&
		reflect.DeepEqual(behind(c.J.Records), slices.Repeat([]api.Record{mark("spare", 1)}, room))
}

// fillCopies and fillChoice write all over what may be reached from one.
func fillCopies(l []api.Copy) {
	for _, c := range l {
		fill(c.B, 9)
	}
	fill(l, api.Copy{Err: -9})
}

func fillChoice(c api.Choice) {
	for _, r := range c.J.Records[:cap(c.J.Records)] {
		fill(r.Parts, api.PartSize{Number: -7, Size: -8})
	}
	fill(c.J.Records, api.Record{ID: "filled"})
	fill(c.B, 9)
	fill(c.Has, true)
}

// everyList are lists of copies of all kinds: with a choice, with none, and such that are refused.
func everyList() [][]api.Copy {
	a, b := api.Copy{B: bytesOf(full(7))}, has(5, 2)
	all := [][]api.Copy{nil, {}, {b}, {a, a, b}, {b, a}, {b, has(5, 4)}, alphabet(), times(16, b), times(17, b), times(16, says(api.ErrMissing)), times(3, says(api.ErrOffline))}
	all = append(all, times(3, beside(api.ErrMissing, b)), times(3, beside(api.ErrOffline, b)), []api.Copy{turned(b, 9, 1), b, {}})
	r := rand.New(rand.NewSource(98))
	for range 100 {
		all = append(all, drawn(r, r.Intn(maxDrives+1)))
	}
	return all
}

// TestNothingIsChanged: what is handed in is as it was behind each call, and its spare room is not read.
func TestNothingIsChanged(t *testing.T) {
	for _, was := range everyList() {
		for _, k := range []int{0, 1, 2, len(was), len(was) + 1} {
			l := roomy(was)
			ask(t, "spare room", l, k)
			wanted, wantedErr := modelElect(was, k)
			wantChoice(t, "spare room", l, k, wanted, wantedErr)
			wasChoice, _ := tally.Elect(was, k)
			c := roomyChoice(wasChoice)
			askBehind(t, "spare room", l, c)
			if !untouched(l, was) || !untouchedChoice(c, wasChoice) {
				t.Errorf("something was changed: %s", shown(was))
			}
		}
	}
}

// TestListsThatEndEarly: copies, Has and bytes that go on in their room are answered as far as they go.
func TestListsThatEndEarly(t *testing.T) {
	l := []api.Copy{has(4, 1), has(4, 1), has(5, 1), has(6, 1)}
	wantTop(t, "two of four", l[:2], 2, 0, 0, 1)
	wantNoChoice(t, "two of four", l[:2], 3, api.ErrArg)
	wantTop(t, "three of four", l[:3], 3, 2, 2)
	c := api.Choice{Found: true, Has: every(5)}
	c.Has = c.Has[:2]
	wantBehind(t, "two of five", l[:2], c, no(2), api.OK)
	wantBehind(t, "two of five", l[:3], c, nil, api.ErrArg)
	// A journal with a byte behind it is none, and one that ends ahead of such a byte is.
	long := append(has(5, 1).B, 7)
	wantTop(t, "bytes that end", []api.Copy{{B: long}, {B: long[:len(long)-1]}}, 2, 1, 1)
	whole := has(5, 1).B
	wantNone(t, "bytes that end too early", []api.Copy{{B: whole[:len(whole)-1]}}, 1)
}

// TestAnswersAreTheirOwn: what is written into one later is not seen in what was handed in, nor the other way round.
func TestAnswersAreTheirOwn(t *testing.T) {
	for _, was := range everyList() {
		for _, k := range []int{1, 2, len(was), len(was) + 1} {
			l := roomy(was)
			one, _ := tally.Elect(l, k)
			two, err := tally.Elect(l, k)
			wanted, wantedErr := modelElect(was, k)
			fillChoice(one)
			if !untouched(l, was) || !same(two, wanted) || err != wantedErr {
				t.Errorf("what Elect answers is not its own: %s", shown(was))
			}
			fillCopies(l)
			if !same(two, wanted) {
				t.Errorf("what Elect answers follows what was handed in: %s", shown(was))
			}
		}
	}
}

// TestBehindIsItsOwn: so it is with Behind.
func TestBehindIsItsOwn(t *testing.T) {
	for _, was := range everyList() {
		wasChoice, _ := tally.Elect(was, 1)
		l, c := roomy(was), roomyChoice(wasChoice)
		one, _ := tally.Behind(l, c)
		two, err := tally.Behind(l, c)
		wanted, wantedErr := modelBehind(was, wasChoice)
		fill(one, true)
		if !untouched(l, was) || !untouchedChoice(c, wasChoice) || !slices.Equal(two, wanted) || err != wantedErr {
			t.Errorf("what Behind answers is not its own: %s", shown(was))
		}
		fillCopies(l)
		fillChoice(c)
		if !slices.Equal(two, wanted) {
			t.Errorf("what Behind answers follows what was handed in: %s", shown(was))
		}
	}
}

// TestSharedBytes: copies may share their bytes; the answer shares them with none, and its lists not with one another.
func TestSharedBytes(t *testing.T) {
	b := bytesOf(full(7))
	wasB := bytes.Clone(b)
	l := times(5, api.Copy{B: b})
	c, _ := tally.Elect(l, 5)
	wanted := level(c)
	for i := range c.J.Records {
		fill(c.J.Records[i].Parts, api.PartSize{Number: -1})
		c.J.Records[i].Parts = wanted.J.Records[i].Parts
		if !same(c, wanted) {
			t.Fatalf("two lists of an answer share memory at record %d", i)
		}
	}
	fill(c.B, 9)
	c.B = wanted.B
	if !same(c, wanted) || !bytes.Equal(b, wasB) {
		t.Error("the bytes of an answer are shared")
	}
}
