package place_test

import (
	"fmt"
	"math/rand"
	"slices"
	"strconv"
	"strings"
	"testing"

	"stowage/api"
	"stowage/place"
)

// modelParts tells what the document says.
func modelParts(l []string, sets int) ([][]string, api.Errno) {
	switch {
	case !setsMayBe(sets):
		return nil, api.ErrArg
	case len(l) > maxPaths:
		return nil, api.ErrLong
	case slices.ContainsFunc(l, func(path string) bool { return !pathMayBe(path) }):
		return nil, api.ErrArg
	}
	var parts [][]string
	for set := range sets {
		parts = append(parts, slices.DeleteFunc(slices.Clone(l), func(path string) bool { return setOf(path, sets) != set }))
	}
	return parts, api.OK
}

// sameLists tells whether lists have the same texts: nil and empty are the same.
func sameLists(a, b [][]string) bool {
	return slices.EqualFunc(a, b, func(one, other []string) bool { return slices.Equal(one, other) })
}

// shownLists are lists, cut where they are long.
func shownLists(l [][]string) string {
	return shown(fmt.Sprintf("%q", l))
}

func wantParts(t *testing.T, what string, l []string, sets int, wanted [][]string, wantedErr api.Errno) {
	t.Helper()
	if parts, err := place.Parts(l, sets); !sameLists(parts, wanted) || err != wantedErr {
		t.Errorf("Parts, %s, %d sets: %s, %d; want %s, %d", what, sets, shownLists(parts), err, shownLists(wanted), wantedErr)
	}
}

// askParts asks Parts with all numbers of sets, and holds the answers against the model.
func askParts(t *testing.T, what string, l []string) {
	t.Helper()
	for _, sets := range setNumbers() {
		wanted, err := modelParts(l, sets)
		wantParts(t, what, l, sets, wanted, err)
	}
}

// numbered are so many paths, all unlike, in no order.
func numbered(count int) []string {
	l := make([]string, count)
	for i := range l {
		l[i] = "p" + strconv.Itoa(i)
	}
	return l
}

// drawnPaths are paths of which some are there more than once.
func drawnPaths(r *rand.Rand, count int) []string {
	l := make([]string, count)
	for i := range l {
		l[i] = drawnText(r, 1+r.Intn(2)*r.Intn(maxPath))
		if i > 0 && r.Intn(3) == 0 {
			l[i] = l[r.Intn(i)]
		}
	}
	return l
}

// with is a copy of a list with another text at a place.
func with(l []string, at int, text string) []string {
	l = slices.Clone(l)
	l[at] = text
	return l
}

// badPaths are such that may not be.
func badPaths() []string {
	return []string{"", strings.Repeat("a", 401), strings.Repeat("\u00e9", 201)}
}

// P13.2

// TestPartsOfNone: each set has none of no paths.
func TestPartsOfNone(t *testing.T) {
	for sets := 1; sets <= maxSets; sets++ {
		wantParts(t, "none at all", nil, sets, make([][]string, sets), api.OK)
		wantParts(t, "no paths", []string{}, sets, make([][]string, sets), api.OK)
	}
	askParts(t, "none at all", nil)
	askParts(t, "no paths", []string{})
}

// TestPartsOfKnown: paths whose sets are known (TestKnown).
func TestPartsOfKnown(t *testing.T) {
	l := []string{"f", "a", "e", "abc", "a", "d", "logs/a", "b", "f", "c"}
	wantParts(t, "known", l, 1, [][]string{l}, api.OK)
	wantParts(t, "known", l, 2, [][]string{{"f", "a", "e", "abc", "a", "b", "f", "c"}, {"d", "logs/a"}}, api.OK)
	wantParts(t, "known", l, 3, [][]string{{"f", "abc", "f"}, {"a", "a", "b"}, {"e", "d", "logs/a", "c"}}, api.OK)
	wantParts(t, "known", l, 4, [][]string{{}, {"d", "logs/a"}, {"f", "a", "e", "abc", "a", "b", "f", "c"}, {}}, api.OK)
	askParts(t, "known", l)
}

// TestPartsOfOne: a path is told of its set, and of no other one.
func TestPartsOfOne(t *testing.T) {
	for _, path := range append(numbered(60), "abc", "\x00", "\xff", strings.Repeat("a", 400)) {
		for sets := 1; sets <= maxSets; sets++ {
			wanted := make([][]string, sets)
			wanted[setOf(path, sets)] = []string{path}
			wantParts(t, shown(path), []string{path}, sets, wanted, api.OK)
		}
		askParts(t, shown(path), []string{path})
	}
}

// TestPartsKeepCopies: a path is told as often as it is there, where it is there.
func TestPartsKeepCopies(t *testing.T) {
	wantParts(t, "a copy", []string{"a", "a"}, 1, [][]string{{"a", "a"}}, api.OK)
	wantParts(t, "copies", []string{"d", "a", "d", "d", "a"}, 2, [][]string{{"a", "a"}, {"d", "d", "d"}}, api.OK)
	askParts(t, "two in turn", slices.Repeat([]string{"a", "d"}, 40))
	askParts(t, "one many times", slices.Repeat([]string{"logs/a"}, 300))
	askParts(t, "many, each twice", slices.Repeat(numbered(50), 2))
}

// TestPartsKeepOrder: each set's paths stand as they stood, whatever their order was.
func TestPartsKeepOrder(t *testing.T) {
	rising := slices.Sorted(slices.Values(numbered(200)))
	falling := slices.Clone(rising)
	slices.Reverse(falling)
	askParts(t, "rising", rising)
	askParts(t, "falling", falling)
	askParts(t, "neither", numbered(200))
	askParts(t, "there and back", append(slices.Clone(rising), falling...))
}

// TestPartsBounds: 10,000 paths may be, one more may not, whatever the paths are.
func TestPartsBounds(t *testing.T) {
	for _, count := range []int{maxPaths - 1, maxPaths, maxPaths + 1, maxPaths + 2, 2 * maxPaths} {
		for what, l := range map[string][]string{"all unlike": numbered(count), "all the same": slices.Repeat([]string{"a"}, count)} {
			what += ", " + strconv.Itoa(count)
			for sets := 1; sets <= maxSets; sets++ {
				wanted, err := modelParts(l, sets)
				wantParts(t, what, l, sets, wanted, err)
			}
		}
	}
	wantParts(t, "10,001", numbered(10001), 2, nil, api.ErrLong)
	if parts, err := place.Parts(numbered(10000), 1); len(parts) != 1 || len(parts[0]) != 10000 || err != api.OK {
		t.Errorf("10,000: %d lists, %d", len(parts), err)
	}
}

// TestPartsOfBadPaths: one that may not be, at each place.
func TestPartsOfBadPaths(t *testing.T) {
	for count := 1; count <= 12; count++ {
		for at := range count {
			for _, bad := range badPaths() {
				l := with(numbered(count), at, bad)
				askParts(t, fmt.Sprintf("%s at %d of %d", shown(bad), at, count), l)
				wantParts(t, fmt.Sprintf("%s at %d of %d", shown(bad), at, count), l, 3, nil, api.ErrArg)
			}
		}
	}
	for _, bad := range badPaths() {
		for _, at := range []int{0, 1, 4999, 9998, 9999} {
			wantParts(t, fmt.Sprintf("%s at %d of 10,000", shown(bad), at), with(numbered(maxPaths), at, bad), 4, nil, api.ErrArg)
		}
		askParts(t, "bad ones alone", slices.Repeat([]string{bad}, 3))
	}
	askParts(t, "the longest that may be", []string{strings.Repeat("a", 400), "a", strings.Repeat("b", 400)})
}

// TestPartsOrderOfErrors: the number of sets ahead of how many paths there are, ahead of what they are.
func TestPartsOrderOfErrors(t *testing.T) {
	long := numbered(maxPaths + 1)
	for _, bad := range badPaths() {
		for _, at := range []int{0, 5000, maxPaths} {
			l := with(long, at, bad)
			for sets := 1; sets <= maxSets; sets++ {
				wantParts(t, "too many, and a bad one", l, sets, nil, api.ErrLong)
			}
			for _, sets := range []int{0, -1, 5} {
				wantParts(t, "all wrong", l, sets, nil, api.ErrArg)
			}
		}
	}
	for _, sets := range setNumbers() {
		if !setsMayBe(sets) {
			wantParts(t, "too many, and wrong sets", long, sets, nil, api.ErrArg)
			wantParts(t, "a bad one, and wrong sets", []string{"a", ""}, sets, nil, api.ErrArg)
			wantParts(t, "wrong sets", []string{"a", "b"}, sets, nil, api.ErrArg)
			wantParts(t, "no paths, and wrong sets", nil, sets, nil, api.ErrArg)
		}
	}
}

// TestDrawnParts: Parts holds against the model, and tells the same once more.
func TestDrawnParts(t *testing.T) {
	r := rand.New(rand.NewSource(132))
	for range 300 {
		l := drawnPaths(r, r.Intn(60))
		if len(l) > 0 && r.Intn(8) == 0 {
			l[r.Intn(len(l))] = badPaths()[r.Intn(3)]
		}
		askParts(t, "drawn", l)
		askParts(t, "drawn, once more", l)
	}
}

// P13.3

// TestEachPathHasOneSet: each path is in the list of just one set, which is its set, as often as it is there.
func TestEachPathHasOneSet(t *testing.T) {
	r := rand.New(rand.NewSource(133))
	for range 100 {
		l := drawnPaths(r, 1+r.Intn(80))
		for sets := 1; sets <= maxSets; sets++ {
			parts, err := place.Parts(l, sets)
			if len(parts) != sets || err != api.OK {
				t.Fatalf("%d lists of %d sets, %d", len(parts), sets, err)
			}
			for _, path := range l {
				wantOneSet(t, l, parts, path)
			}
		}
	}
}

func wantOneSet(t *testing.T, l []string, parts [][]string, path string) {
	t.Helper()
	own, err := place.Set(path, len(parts))
	for set, part := range parts {
		wanted := 0
		if set == own {
			wanted = timesIn(l, path)
		}
		if got := timesIn(part, path); got != wanted || err != api.OK {
			t.Errorf("%s is %d times in the list of set %d of %d, %d; want %d", shown(path), got, set, len(parts), err, wanted)
		}
	}
}

func timesIn(l []string, text string) int {
	n := 0
	for _, s := range l {
		if s == text {
			n++
		}
	}
	return n
}

// TestPartedAndMerged: rising paths, parted and merged, are these paths; others are so, too, but rising and each once.
func TestPartedAndMerged(t *testing.T) {
	r := rand.New(rand.NewSource(134))
	lists := [][]string{nil, {"a"}, {"a", "b"}, numbered(maxPaths), slices.Sorted(slices.Values(numbered(maxPaths)))}
	for range 200 {
		lists = append(lists, drawnPaths(r, r.Intn(80)))
	}
	for _, l := range lists {
		rising := slices.Compact(slices.Sorted(slices.Values(l)))
		for sets := 1; sets <= maxSets; sets++ {
			for _, paths := range [][]string{rising, l} {
				parts, err := place.Parts(paths, sets)
				if err != api.OK {
					t.Errorf("Parts: %d", err)
				}
				wantMerge(t, parts, rising)
			}
		}
	}
}
