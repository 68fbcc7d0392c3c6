package place_test

import (
	"math/rand"
	"slices"
	"testing"

	"stowage/api"
	"stowage/place"
)

const (
	// spare is what stands in spare room: a path that may be, and that would be told if it were read.
	spare = "!spare"
	room  = 20
)

// roomy is a copy of a list with marked room behind it.
func roomy[T any](l []T, mark T) []T {
	all := slices.Concat(l, slices.Repeat([]T{mark}, room))
	return all[:len(l):len(all)]
}

// roomyLists are copies of lists with room behind each, and behind all.
func roomyLists(l [][]string) [][]string {
	l = roomy(l, []string{spare})
	for i, list := range l {
		l[i] = roomy(list, spare)
	}
	return l
}

// behind is the spare room of a list.
func behind[T any](l []T) []T { return l[:cap(l)][len(l):] }

// fill writes all over a list and its spare room.
func fill[T any](l []T, v T) {
	l = l[:cap(l)]
	for i := range l {
		l[i] = v
	}
}

// fillLists does so with each list, and with the list of them.
func fillLists(l [][]string) {
	for _, list := range l[:cap(l)] {
		fill(list, "filled")
	}
	fill(l, []string{"filled"})
}

// untouched tells whether a list is as it was, and its room, too.
func untouched(l, was []string) bool {
	return slices.Equal(l, was) && slices.Equal(behind(l), slices.Repeat([]string{spare}, room))
}

// untouchedLists tells so of lists.
func untouchedLists(l, was [][]string) bool {
	for i, list := range l {
		if !untouched(list, was[i]) {
			return false
		}
	}
	return len(l) == len(was) && sameLists(behind(l), slices.Repeat([][]string{{spare}}, room))
}

// everyPaths are paths of all kinds: none, some, such that may not be, too many.
func everyPaths() [][]string {
	all := [][]string{nil, {}, {"a"}, {"b", "a"}, {"a", "a", "d"}, {""}, {"a", "", "b"}, numbered(maxPaths), numbered(maxPaths + 1)}
	r := rand.New(rand.NewSource(139))
	for range 100 {
		all = append(all, drawnPaths(r, r.Intn(50)))
	}
	return all
}

// everyLists are lists of all kinds: none, one, several, such that rise and such that do not.
func everyLists() [][][]string {
	all := [][][]string{nil, {}, {nil}, {{}}, {{"a"}}, {{"a", "b"}}, {{"b", "a", "a"}}, {{"a"}, {}}, {{}, {"b", "a"}}, {{"a", "c"}, {"b", "c"}, nil}}
	r := rand.New(rand.NewSource(140))
	for range 300 {
		l := drawnLists(r, r.Intn(9), 8)
		all = append(all, l)
		for i := range l {
			slices.Sort(l[i])
			l[i] = slices.Compact(l[i])
		}
		all = append(all, drawnLists(r, r.Intn(9), 8))
	}
	return all
}

// TestNothingIsChanged: what is handed in is as it was behind each call, and its spare room is neither read nor written.
func TestNothingIsChanged(t *testing.T) {
	for _, was := range everyPaths() {
		for sets := 0; sets <= maxSets+1; sets++ {
			l := roomy(was, spare)
			wanted, err := modelParts(was, sets)
			wantParts(t, "spare room", l, sets, wanted, err)
			if !untouched(l, was) {
				t.Errorf("Parts changed something: %s, %d sets", shownLists([][]string{was}), sets)
			}
		}
	}
	for _, was := range everyLists() {
		l := roomyLists(was)
		wantMerge(t, l, modelMerge(was))
		if !untouchedLists(l, was) {
			t.Errorf("Merge changed something: %s", shownLists(was))
		}
	}
}

// TestPartsAreTheirOwn: what is written into one later is not seen in what was handed in, nor in another answer, nor the other way round.
func TestPartsAreTheirOwn(t *testing.T) {
	for _, was := range everyPaths() {
		for sets := 0; sets <= maxSets+1; sets++ {
			l := roomy(was, spare)
			wanted, wantedErr := modelParts(was, sets)
			one, _ := place.Parts(l, sets)
			two, err := place.Parts(l, sets)
			fillLists(one)
			if !untouched(l, was) || !sameLists(two, wanted) || err != wantedErr {
				t.Errorf("what Parts answers is not its own: %s", shownLists([][]string{was}))
			}
			fill(l, "filled")
			if !sameLists(two, wanted) {
				t.Errorf("what Parts answers follows what was handed in: %s", shownLists([][]string{was}))
			}
		}
	}
}

// TestListsOfOneAnswer: no two lists share memory, their spare room neither.
func TestListsOfOneAnswer(t *testing.T) {
	for _, l := range everyPaths() {
		for sets := 1; sets <= maxSets; sets++ {
			wanted, _ := modelParts(l, sets)
			for i := range wanted {
				parts, _ := place.Parts(l, sets)
				fill(parts[i], "filled")
				parts[i] = wanted[i]
				if !sameLists(parts, wanted) {
					t.Fatalf("list %d of %d is another one's, too", i, sets)
				}
			}
			wantOwnRoom(t, l, sets)
		}
	}
}

// wantOwnRoom: what is put behind one list of an answer is not put over another one.
func wantOwnRoom(t *testing.T, l []string, sets int) {
	t.Helper()
	parts, _ := place.Parts(l, sets)
	var longer [][]string
	for i, part := range parts {
		longer = append(longer, append(part, "behind"+string(rune('0'+i))))
	}
	wanted, _ := modelParts(l, sets)
	for i := range wanted {
		wanted[i] = append(wanted[i], "behind"+string(rune('0'+i)))
	}
	if !sameLists(longer, wanted) {
		t.Errorf("two lists of an answer share their room: %s", shownLists(longer))
	}
}

// TestMergedIsItsOwn: so it is with Merge, also of a single list.
func TestMergedIsItsOwn(t *testing.T) {
	for _, was := range everyLists() {
		l := roomyLists(was)
		wanted := modelMerge(was)
		one := place.Merge(l)
		two := place.Merge(l)
		fill(one, "filled")
		if !untouchedLists(l, was) || !slices.Equal(two, wanted) {
			t.Errorf("what Merge answers is not its own: %s", shownLists(was))
		}
		fillLists(l)
		if !slices.Equal(two, wanted) {
			t.Errorf("what Merge answers follows what was handed in: %s", shownLists(was))
		}
	}
}

// TestNothingOfListsIsInTheRoomOfAnswers: spare room of what was handed in is not handed out.
func TestNothingOfListsIsInTheRoomOfAnswers(t *testing.T) {
	for _, was := range everyLists() {
		if slices.Contains(behind(place.Merge(roomyLists(was))), spare) {
			t.Errorf("Merge hands out spare room: %s", shownLists(was))
		}
	}
	for _, was := range everyPaths() {
		for sets := 1; sets <= maxSets; sets++ {
			parts, _ := place.Parts(roomy(was, spare), sets)
			for _, part := range parts {
				if slices.Contains(behind(part), spare) {
					t.Errorf("Parts hands out spare room: %s", shownLists([][]string{was}))
				}
			}
		}
	}
}

// TestSharedLists: one list may be handed in several times, and lists may overlap.
func TestSharedLists(t *testing.T) {
	l := []string{"c", "a", "b", "a"}
	was := slices.Clone(l)
	wantMerge(t, [][]string{l, l, l[1:], l[:2], l[2:2]}, []string{"a", "b", "c"})
	wantMerge(t, [][]string{l[:2], l[1:3]}, []string{"a", "b", "c"})
	if !slices.Equal(l, was) {
		t.Errorf("a list was changed: %q", l)
	}
}

// TestNothingIsKept: an answer follows what is handed in now, not what stood there earlier.
func TestNothingIsKept(t *testing.T) {
	l := []string{"a", "d"}
	wantParts(t, "a, d", l, 2, [][]string{{"a"}, {"d"}}, api.OK)
	wantMerge(t, [][]string{l}, []string{"a", "d"})
	l[0], l[1] = "logs/a", ""
	wantParts(t, "logs/a, none", l, 2, nil, api.ErrArg)
	wantMerge(t, [][]string{l}, []string{"", "logs/a"})
	l[1] = "b"
	wantParts(t, "logs/a, b", l, 2, [][]string{{"b"}, {"logs/a"}}, api.OK)
	wantMerge(t, [][]string{l}, []string{"b", "logs/a"})
}
