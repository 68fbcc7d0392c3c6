package place_test

import (
	"math/rand"
	"slices"
	"strconv"
	"strings"
	"testing"

	"stowage/place"
)

// modelMerge tells what the document says: it asks of each text whether it is there already, and where it belongs.
func modelMerge(l [][]string) []string {
	there := map[string]int{}
	for _, list := range l {
		for _, text := range list {
			there[text]++
		}
	}
	var all []string
	for text := range there {
		all = append(all, text)
	}
	slices.SortFunc(all, strings.Compare)
	return all
}

func wantMerge(t *testing.T, l [][]string, wanted []string) {
	t.Helper()
	if got := place.Merge(l); !slices.Equal(got, wanted) {
		t.Errorf("Merge(%s): %s; want %s", shownLists(l), shownLists([][]string{got}), shownLists([][]string{wanted}))
	}
}

// each are a list for each text.
func each(l []string) [][]string {
	var all [][]string
	for _, text := range l {
		all = append(all, []string{text})
	}
	return all
}

// alphabet are texts that are easily put in a wrong order: none, beginnings of others, great and small bytes.
func alphabet() []string {
	return []string{"", "\x00", "\x00\x00", "A", "Z", "a", "a\x00", "a\x7f", "a\x80", "aa", "ab", "a/b", "b", "\x7f", "\x80", "\xc3", "\u00e9", "\u20ac", "\xff", "\xff\xff", "10", "9"}
}

// drawnLists are lists that need not rise.
func drawnLists(r *rand.Rand, count, most int) [][]string {
	l := make([][]string, count)
	for i := range l {
		for range r.Intn(most + 1) {
			l[i] = append(l[i], alphabet()[r.Intn(len(alphabet()))])
		}
	}
	return l
}

// shuffled is a list in another order.
func shuffled[T any](r *rand.Rand, l []T) []T {
	l = slices.Clone(l)
	r.Shuffle(len(l), func(i, j int) { l[i], l[j] = l[j], l[i] })
	return l
}

// P13.2

// TestMerge: the edges by hand.
func TestMerge(t *testing.T) {
	for _, c := range []struct {
		l      [][]string
		wanted []string
	}{
		{nil, nil},
		{[][]string{}, nil},
		{[][]string{nil}, nil},
		{[][]string{{}}, nil},
		{[][]string{nil, {}, nil}, nil},
		{[][]string{{"a"}}, []string{"a"}},
		{[][]string{{"a"}, nil}, []string{"a"}},
		{[][]string{nil, {"a"}}, []string{"a"}},
		{[][]string{{}, {"a"}, {}}, []string{"a"}},
		{[][]string{{"a"}, {"b"}}, []string{"a", "b"}},
		{[][]string{{"b"}, {"a"}}, []string{"a", "b"}},
		{[][]string{{"a", "b", "c"}}, []string{"a", "b", "c"}},
		{[][]string{{"a", "d"}, {"b", "e"}, {"c", "f"}}, []string{"a", "b", "c", "d", "e", "f"}},
		{[][]string{{"d", "e", "f"}, {"a", "b", "c"}}, []string{"a", "b", "c", "d", "e", "f"}},
		{[][]string{{"a"}, {"b", "c", "d"}, {"e"}}, []string{"a", "b", "c", "d", "e"}},
	} {
		wantMerge(t, c.l, c.wanted)
	}
}

// TestMergeOfListsThatDoNotRise: they are merged as if they did.
func TestMergeOfListsThatDoNotRise(t *testing.T) {
	for _, c := range []struct {
		l      [][]string
		wanted []string
	}{
		{[][]string{{"b", "a"}}, []string{"a", "b"}},
		{[][]string{{"c", "b", "a"}, {"f", "e", "d"}}, []string{"a", "b", "c", "d", "e", "f"}},
		{[][]string{{"b", "a", "c"}, {"a"}}, []string{"a", "b", "c"}},
		{[][]string{{"a"}, {"c", "a", "b"}}, []string{"a", "b", "c"}},
		{[][]string{{"a", "b", "a"}}, []string{"a", "b"}},
		{[][]string{{"b", "a", "b", "a"}, {"a", "b", "a"}, {"c", ""}}, []string{"", "a", "b", "c"}},
	} {
		wantMerge(t, c.l, c.wanted)
	}
}

// TestMergeTellsEachOnce: texts that are there more than once, in one list and in several.
func TestMergeTellsEachOnce(t *testing.T) {
	wantMerge(t, [][]string{{"a", "a"}}, []string{"a"})
	wantMerge(t, [][]string{{"a"}, {"a"}}, []string{"a"})
	wantMerge(t, [][]string{{"a", "a"}, {"a"}, {"a", "a", "a"}}, []string{"a"})
	wantMerge(t, [][]string{{"a", "b", "b", "c"}, {"b", "c", "c"}}, []string{"a", "b", "c"})
	wantMerge(t, [][]string{{"", ""}, {""}}, []string{""})
	wantMerge(t, slices.Repeat([][]string{{"a", "b"}}, 100), []string{"a", "b"})
	wantMerge(t, [][]string{slices.Repeat([]string{"x"}, 20000), {"x"}}, []string{"x"})
}

// TestMergeOfTexts: the empty text, texts that begin others, bytes above 127: they rise as bytes.
func TestMergeOfTexts(t *testing.T) {
	wantMerge(t, [][]string{{""}}, []string{""})
	wantMerge(t, [][]string{{"a"}, {""}}, []string{"", "a"})
	wantMerge(t, [][]string{{"", "a"}, nil, {"b"}}, []string{"", "a", "b"})
	wantMerge(t, [][]string{{"abc"}, {"ab"}, {"a"}, {"abcd"}}, []string{"a", "ab", "abc", "abcd"})
	wantMerge(t, [][]string{{"a", "a/b"}, {"a\x00", "aa"}}, []string{"a", "a\x00", "a/b", "aa"})
	wantMerge(t, [][]string{{"\xff", "\x80"}, {"a", "\x7f"}, {"\u00e9", "\xc3"}}, []string{"a", "\x7f", "\x80", "\xc3", "\u00e9", "\xff"})
	wantMerge(t, [][]string{{"b", "B"}, {"a", "A"}}, []string{"A", "B", "a", "b"})
	wantMerge(t, [][]string{{"10", "9"}, {"2"}}, []string{"10", "2", "9"})
	// Bytes that are no runes are not the same as one another.
	wantMerge(t, [][]string{{"\x80"}, {"\x81"}, {"\ufffd"}}, []string{"\x80", "\x81", "\ufffd"})
	long := strings.Repeat("a", 1000)
	wantMerge(t, [][]string{{long + "b"}, {long, long + "a"}}, []string{long, long + "a", long + "b"})
	wantMerge(t, each(alphabet()), slices.Sorted(slices.Values(alphabet())))
	wantMerge(t, [][]string{alphabet()}, slices.Sorted(slices.Values(alphabet())))
}

// TestMergeOfAllSmallLists: all choices of up to four lists of up to two of three texts.
func TestMergeOfAllSmallLists(t *testing.T) {
	texts := []string{"", "a", "b"}
	small := [][]string{nil}
	for _, one := range texts {
		small = append(small, []string{one})
		for _, other := range texts {
			small = append(small, []string{one, other})
		}
	}
	l := [][]string{}
	var choose func(left int)
	choose = func(left int) {
		wantMerge(t, l, modelMerge(l))
		if left == 0 {
			return
		}
		for _, list := range small {
			l = append(l, list)
			choose(left - 1)
			l = l[:len(l)-1]
		}
	}
	choose(4)
}

// TestMergeOfEachByte: texts with each byte rise by it.
func TestMergeOfEachByte(t *testing.T) {
	var ones, behind []string
	for c := range 256 {
		ones = append(ones, string([]byte{byte(c)}))
		behind = append(behind, string([]byte{'a', byte(c)}))
	}
	r := rand.New(rand.NewSource(135))
	for range 20 {
		wantMerge(t, each(shuffled(r, ones)), ones)
		wantMerge(t, [][]string{shuffled(r, behind)[:200], shuffled(r, behind), shuffled(r, behind)[:10]}, behind)
	}
}

// TestMergeOfMany: of many lists, of long ones, and of one long beside many short ones.
func TestMergeOfMany(t *testing.T) {
	const count = 100000
	r := rand.New(rand.NewSource(136))
	all := numbered(count)
	wanted := slices.Sorted(slices.Values(all))
	wantMerge(t, each(shuffled(r, all)), wanted)
	wantMerge(t, [][]string{shuffled(r, all), wanted[:count/2], shuffled(r, all)}, wanted)
	wantMerge(t, append(each(shuffled(r, all)), wanted), wanted)
	wantMerge(t, append(make([][]string, count), wanted), wanted)
	var halves [2][]string
	for i, text := range wanted {
		halves[i%2] = append(halves[i%2], text)
	}
	wantMerge(t, halves[:], wanted)
	for lists := range 70 {
		l := make([][]string, lists)
		for i := range lists * 7 {
			l[i%lists] = append(l[i%lists], strconv.Itoa(i*13))
		}
		wantMerge(t, l, modelMerge(l))
	}
}

// TestDrawnMerge: Merge holds against the model, also once more, and of what it told.
func TestDrawnMerge(t *testing.T) {
	r := rand.New(rand.NewSource(137))
	for range 5000 {
		l := drawnLists(r, r.Intn(9), 6)
		wanted := modelMerge(l)
		wantMerge(t, l, wanted)
		wantMerge(t, l, wanted)
		wantMerge(t, [][]string{wanted}, wanted)
		wantMerge(t, append([][]string{wanted}, l...), wanted)
	}
}

// P13.3

// TestMergeHangsOnNoOrder: neither on that of the lists, nor on that of the texts in one, nor on which list has a text.
func TestMergeHangsOnNoOrder(t *testing.T) {
	r := rand.New(rand.NewSource(138))
	for range 300 {
		l := drawnLists(r, 1+r.Intn(8), 8)
		wanted := modelMerge(l)
		for range 8 {
			l = shuffled(r, l)
			wantMerge(t, l, wanted)
			l[0] = shuffled(r, l[0])
			wantMerge(t, l, wanted)
		}
		wantMerge(t, [][]string{slices.Concat(l...)}, wanted)
		wantMerge(t, each(slices.Concat(l...)), wanted)
	}
}

// TestMergeOfEachOrder: all orders of four lists, of which some rise.
func TestMergeOfEachOrder(t *testing.T) {
	lists := [][]string{{"a", "c", "e"}, {"d", "b", "a"}, {}, {"", "f", "c", "c"}}
	wanted := []string{"", "a", "b", "c", "d", "e", "f"}
	orders := 0
	for i := range 256 {
		a, b, c, d := i&3, i>>2&3, i>>4&3, i>>6&3
		if a != b && a != c && a != d && b != c && b != d && c != d {
			orders++
			wantMerge(t, [][]string{lists[a], lists[b], lists[c], lists[d]}, wanted)
		}
	}
	if orders != 24 {
		t.Errorf("%d orders", orders)
	}
}
