package stripe_test

import (
	"bytes"
	"fmt"
	"math"
	"math/bits"
	"math/rand"
	"slices"
	"testing"

	"stowage/api"
	"stowage/gf"
	"stowage/stripe"
)

type lists = [][]byte

const most = 65536

func same(a, b lists) bool { return slices.EqualFunc(a, b, bytes.Equal) }

func drawn(r *rand.Rand, size int) []byte {
	data := make([]byte, size)
	r.Read(data)
	return data
}

// drawnShards are n shards of a length that no one split: any k of them make others than are there.
func drawnShards(r *rand.Rand, n, length int) lists {
	shards := make(lists, n)
	for i := range shards {
		shards[i] = drawn(r, length)
	}
	return shards
}

func copied(a lists) lists {
	b := make(lists, len(a))
	for i := range a {
		b[i] = bytes.Clone(a[i])
	}
	return b
}

// alike are n shards of a length, all of one byte.
func alike(n, length int) lists {
	shards := make(lists, n)
	for i := range shards {
		shards[i] = bytes.Repeat([]byte{7}, length)
	}
	return shards
}

// pairs calls f with all k and m that may be.
func pairs(f func(k, m int)) {
	for k := 1; k <= 15; k++ {
		for m := 1; k+m <= 16; m++ {
			f(k, m)
		}
	}
}

// wrongPairs are such as may not be.
func wrongPairs() [][2]int {
	return [][2]int{
		{0, 1}, {1, 0}, {0, 0}, {-1, 1}, {1, -1}, {-1, -1}, {0, 16}, {16, 0}, {0, 3}, {3, 0}, {-1, 17}, {17, -1}, {-2, 5},
		{5, -2}, {16, 1}, {1, 16}, {15, 2}, {2, 15}, {8, 9}, {9, 8}, {16, 16}, {17, 1}, {1, 17}, {257, 1}, {1, 257},
		{math.MaxInt, 1}, {1, math.MaxInt}, {math.MaxInt, math.MaxInt}, {math.MinInt, 1}, {1, math.MinInt},
		{math.MinInt, math.MinInt}, {math.MaxInt, math.MinInt}, {math.MinInt, math.MaxInt}, {math.MaxInt, 2},
		{math.MinInt, 3}, {1 << 32, 1}, {1<<32 + 1, 1}, {2, 1<<32 + 1},
	}
}

// sizes are those at which the last shard, or the last few, are filled up in another way.
func sizes(k int) []int {
	all := []int{0, 1, k - 1, k, k + 1, 2*k - 1, 2 * k, 2*k + 1, k*k - k, k*k - k + 1, 7*k - 2, 300}
	all = slices.DeleteFunc(all, func(size int) bool { return size < 0 })
	slices.Sort(all)
	return slices.Compact(all)
}

// times is a number that the code's row has at a place, as the document says it: 1 by the sum of both numbers.
func times(row, place int) byte {
	n, _ := gf.Inv(byte(row ^ place))
	return n
}

// made are the m shards that the first k make, place by place.
func made(first lists, m int) lists {
	k := len(first)
	others := make(lists, m)
	for i := range others {
		others[i] = make([]byte, len(first[0]))
		for place := range others[i] {
			for j := range first {
				others[i][place] ^= gf.Mul(times(k+i, j), first[j][place])
			}
		}
	}
	return others
}

// split are the shards of bytes as the document says them.
func split(data []byte, k, m int) lists {
	length := 0
	for length*k < len(data) {
		length++
	}
	first := make(lists, k)
	for i := range first {
		first[i] = make([]byte, length)
		for place := range first[i] {
			if at := i*length + place; at < len(data) {
				first[i][place] = data[at]
			}
		}
	}
	return append(first, made(first, m)...)
}

// chosen are the bits of a number, as what is there.
func chosen(these, n int) []bool {
	have := make([]bool, n)
	for i := range have {
		have[i] = these>>i&1 == 1
	}
	return have
}

// choices calls f with what may be there of n: with all choices, or with some that are drawn, if there are too many
// for a quick test.
func choices(r *rand.Rand, n int, f func(these int)) {
	if n <= 9 {
		for these := range 1 << n {
			f(these)
		}
		return
	}
	for range 120 {
		f(r.Intn(1 << n))
	}
}

// littered are shards with whatever lies in the places of those that are not there.
func littered(r *rand.Rand, shards lists, have []bool) lists {
	all := copied(shards)
	for i := range all {
		if have[i] {
			continue
		}
		switch r.Intn(5) {
		case 0:
			all[i] = nil
		case 1:
			all[i] = []byte{}
		case 2:
			all[i] = make([]byte, most+1)
		case 3:
			all[i] = drawn(r, len(all[i])+1)
		case 4:
			all[i] = drawn(r, len(all[i]))
		}
	}
	return all
}

// brief cuts what would be told of great lists.
func brief(x any) string {
	text := fmt.Sprint(x)
	return text[:min(len(text), 300)]
}

func want(t *testing.T, what string, got lists, err api.Errno, wanted lists, wantedErr api.Errno) {
	t.Helper()
	if err != wantedErr || !same(got, wanted) || wantedErr != api.OK && got != nil {
		t.Errorf("%s: %s, %d; want %s, %d", what, brief(got), err, brief(wanted), wantedErr)
	}
}

func wantBytes(t *testing.T, what string, got []byte, err api.Errno, wanted []byte, wantedErr api.Errno) {
	t.Helper()
	if err != wantedErr || !bytes.Equal(got, wanted) || wantedErr != api.OK && got != nil {
		t.Errorf("%s: %s, %d; want %s, %d", what, brief(got), err, brief(wanted), wantedErr)
	}
}

func wantSound(t *testing.T, what string, got bool, err api.Errno, wanted bool, wantedErr api.Errno) {
	t.Helper()
	if got != wanted || err != wantedErr {
		t.Errorf("%s: %v, %d; want %v, %d", what, got, err, wanted, wantedErr)
	}
}

// P3.1

func TestLength(t *testing.T) {
	for _, c := range []struct{ size, k, length int }{
		{5, 2, 3}, {0, 3, 0}, {6, 3, 2}, {0, 1, 0}, {0, 15, 0}, {1, 1, 1}, {1, 15, 1}, {14, 15, 1}, {15, 15, 1}, {16, 15, 2},
		{most, 1, most}, {most - 1, 1, most - 1}, {most, 2, 32768}, {most - 1, 2, 32768}, {most, 15, 4370}, {most, 3, 21846},
	} {
		if n, err := stripe.Length(c.size, c.k); n != c.length || err != api.OK {
			t.Errorf("%d by %d: %d, %d; want %d", c.size, c.k, n, err, c.length)
		}
	}
	for k := 1; k <= 15; k++ {
		length := 0
		for size := range most + 1 {
			if length*k < size {
				length++
			}
			if n, err := stripe.Length(size, k); n != length || err != api.OK {
				t.Fatalf("%d by %d: %d, %d; want %d", size, k, n, err, length)
			}
		}
	}
}

func TestLengthErrors(t *testing.T) {
	wrongSizes := []int{-1, -2, -most, most + 1, most + 2, 1 << 32, -1 << 32, math.MaxInt, math.MinInt}
	wrongKs := []int{0, -1, -15, 16, 17, 257, 1<<32 + 1, math.MaxInt, math.MinInt}
	refused := func(size, k int) {
		if n, err := stripe.Length(size, k); n != 0 || err != api.ErrRange {
			t.Errorf("%d by %d: %d, %d; want 0, %d", size, k, n, err, api.ErrRange)
		}
	}
	for _, size := range wrongSizes {
		for _, k := range append([]int{1, 2, 15}, wrongKs...) {
			refused(size, k)
		}
	}
	for _, k := range wrongKs {
		for _, size := range []int{0, 1, most} {
			refused(size, k)
		}
	}
}

func TestSplit(t *testing.T) {
	for _, c := range []struct {
		data   []byte
		k, m   int
		shards lists
	}{
		{[]byte{1, 2, 3}, 2, 1, lists{{1, 2}, {3, 0}, {143, 1}}},
		{[]byte{1, 2, 3, 4}, 2, 1, lists{{1, 2}, {3, 4}, {143, 246}}},
		{[]byte{9}, 1, 1, lists{{9}, {9}}},
		{[]byte{9, 8}, 1, 1, lists{{9, 8}, {9, 8}}},
		{[]byte{2}, 1, 2, lists{{2}, {2}, {1}}},
		{[]byte{2}, 2, 1, lists{{2}, {0}, {1}}},
		{[]byte{1}, 3, 1, lists{{1}, {0}, {0}, {244}}},
		{[]byte{1, 2, 3, 4}, 3, 1, lists{{1, 2}, {3, 4}, {0, 0}, {244 ^ 143, 245 ^ 2}}},
		{nil, 2, 1, lists{{}, {}, {}}},
		{[]byte{}, 1, 1, lists{{}, {}}},
		{make([]byte, 0, 8), 15, 1, make(lists, 16)},
		{[]byte{0, 0, 0}, 3, 2, lists{{0}, {0}, {0}, {0}, {0}}},
	} {
		got, err := stripe.Split(c.data, c.k, c.m)
		want(t, fmt.Sprint(c.data, c.k, c.m), got, err, c.shards, api.OK)
	}
}

func TestSplitOfAllPairs(t *testing.T) {
	r := rand.New(rand.NewSource(1))
	pairs(func(k, m int) {
		for _, size := range sizes(k) {
			data := drawn(r, size)
			got, err := stripe.Split(data, k, m)
			want(t, fmt.Sprint(size, " bytes by ", k, " and ", m), got, err, split(data, k, m), api.OK)
		}
	})
}

func TestSplitOfMostBytes(t *testing.T) {
	data := drawn(rand.New(rand.NewSource(2)), most+1)
	for _, c := range [][2]int{{1, 1}, {1, 15}, {15, 1}, {8, 8}, {3, 2}} {
		for _, size := range []int{most - 1, most} {
			got, err := stripe.Split(data[:size], c[0], c[1])
			want(t, fmt.Sprint(size, " bytes by ", c), got, err, split(data[:size], c[0], c[1]), api.OK)
		}
	}
	pairs(func(k, m int) {
		got, err := stripe.Split(data, k, m)
		want(t, fmt.Sprint("a byte too many by ", k, " and ", m), got, err, nil, api.ErrLong)
	})
}

func TestSplitErrors(t *testing.T) {
	for _, c := range wrongPairs() {
		for _, size := range []int{0, 1, 3, most, most + 1} {
			got, err := stripe.Split(make([]byte, size), c[0], c[1])
			want(t, fmt.Sprint(size, " bytes by ", c), got, err, nil, api.ErrRange)
		}
	}
	for _, size := range []int{most + 1, most + 2, 2 * most, 16 * most} {
		got, err := stripe.Split(make([]byte, size), 2, 1)
		want(t, fmt.Sprint(size, " bytes"), got, err, nil, api.ErrLong)
	}
}

// P3.2

func TestMend(t *testing.T) {
	whole := lists{{1, 2}, {3, 0}, {143, 1}}
	for _, c := range []struct {
		shards lists
		have   []bool
		wanted lists
		err    api.Errno
	}{
		{whole, []bool{true, true, true}, whole, api.OK},
		{lists{nil, {3, 0}, {143, 1}}, []bool{false, true, true}, whole, api.OK},
		{lists{{1, 2}, nil, {143, 1}}, []bool{true, false, true}, whole, api.OK},
		{lists{{1, 2}, {3, 0}, nil}, []bool{true, true, false}, whole, api.OK},
		{lists{{1, 2}, {3, 0}, {9, 9}}, []bool{true, true, true}, whole, api.OK},
		{lists{{}, {}, nil}, []bool{true, true, true}, lists{{}, {}, {}}, api.OK},
		{lists{nil, nil, nil}, []bool{true, false, true}, lists{{}, {}, {}}, api.OK},
		{lists{{5}, {}, {}}, []bool{false, true, true}, lists{{}, {}, {}}, api.OK},
		{whole, []bool{true, false, false}, nil, api.ErrQuorum},
		{whole, []bool{false, false, true}, nil, api.ErrQuorum},
		{whole, []bool{false, false, false}, nil, api.ErrQuorum},
		{make(lists, 3), make([]bool, 3), nil, api.ErrQuorum},
		{lists{{1}, {}, nil}, []bool{true, true, false}, nil, api.ErrArg},
	} {
		got, err := stripe.Mend(c.shards, c.have, 2, 1)
		want(t, fmt.Sprint(c.shards, c.have), got, err, c.wanted, c.err)
	}
}

// TestMendOfTheFirst: shards that no one split tell which of them were taken.
func TestMendOfTheFirst(t *testing.T) {
	r := rand.New(rand.NewSource(3))
	pairs(func(k, m int) {
		n := k + m
		first := drawnShards(r, k, 3)
		whole := append(first, made(first, m)...)
		choices(r, n, func(these int) {
			have := chosen(these, n)
			given := littered(r, whole, have)
			left := k
			for i := range given {
				if have[i] {
					if left--; left < 0 {
						given[i] = drawn(r, 3)
					}
				}
			}
			got, err := stripe.Mend(given, have, k, m)
			what := fmt.Sprintf("%d and %d, %b there", k, m, these)
			if left > 0 {
				want(t, what, got, err, nil, api.ErrQuorum)
			} else {
				want(t, what, got, err, whole, api.OK)
			}
		})
	})
}

func TestMendOfMostBytes(t *testing.T) {
	r := rand.New(rand.NewSource(4))
	for _, length := range []int{most - 1, most} {
		first := drawnShards(r, 3, length)
		whole := append(first, made(first, 2)...)
		got, err := stripe.Mend(lists{nil, whole[1], nil, whole[3], whole[4]}, []bool{false, true, false, true, true}, 3, 2)
		want(t, fmt.Sprint("of ", length), got, err, whole, api.OK)
	}
}

// wrong is what may not be there of shards of 2 and 1, each of 2 bytes, with its error.
type wrong struct {
	what   string
	shards lists
	have   []bool
	err    api.Errno
}

// wrongs are in the order of errors; most have faults, too, that come behind the first.
func wrongs() []wrong {
	yes, no := []bool{true, true, true}, []bool{false, false, false}
	long, short, good := make([]byte, most+1), []byte{1}, []byte{1, 2}
	return []wrong{
		{"nothing", nil, nil, api.ErrArg},
		{"no shards", nil, yes, api.ErrArg},
		{"no have", lists{good, good, good}, nil, api.ErrArg},
		{"no shards, but room", lists{good, good, good}[:0], yes, api.ErrArg},
		{"no have, but room", lists{good, good, good}, yes[:0:3], api.ErrArg},
		{"a shard too few", lists{good, good}, yes, api.ErrArg},
		{"a shard too few, but room", lists{good, good, good}[:2], yes, api.ErrArg},
		{"a shard too many", lists{good, good, good, good}, yes, api.ErrArg},
		{"one of have too few", lists{good, good, good}, yes[:2], api.ErrArg},
		{"one of have too many", lists{good, good, good}, []bool{true, true, true, false}, api.ErrArg},
		{"both too few", lists{good, good}, yes[:2], api.ErrArg},
		{"both too many", lists{good, good, good, good}, []bool{true, true, true, true}, api.ErrArg},
		{"very many shards", make(lists, 100000), yes, api.ErrArg},
		{"very many of have", lists{good, good, good}, make([]bool, 100000), api.ErrArg},
		{"too few, too long", lists{long, long}, yes, api.ErrArg},
		{"too few of have, too long", lists{long, long, long}, yes[:1], api.ErrArg},
		{"too many, none there", lists{good, good, good, good}, no, api.ErrArg},
		{"too few, none there", lists{good, good}, no[:2], api.ErrArg},
		{"the first too long", lists{long, good, good}, yes, api.ErrLong},
		{"the last too long", lists{good, good, long}, yes, api.ErrLong},
		{"all too long", lists{long, long, long}, yes, api.ErrLong},
		{"too long behind unlike ones", lists{good, short, long}, yes, api.ErrLong},
		{"one there, too long", lists{short, long, good}, []bool{false, true, false}, api.ErrLong},
		{"very long", lists{good, make([]byte, 1<<21), good}, yes, api.ErrLong},
		{"the first shorter", lists{short, good, good}, yes, api.ErrArg},
		{"the second longer", lists{good, {1, 2, 3}, good}, yes, api.ErrArg},
		{"the last shorter", lists{good, good, short}, yes, api.ErrArg},
		{"the last of no bytes", lists{good, good, nil}, yes, api.ErrArg},
		{"the first of no bytes", lists{nil, good, good}, yes, api.ErrArg},
		{"unlike, one not there between", lists{good, good, short}, []bool{true, false, true}, api.ErrArg},
		{"unlike, one not there ahead", lists{good, short, good}, []bool{false, true, true}, api.ErrArg},
		{"one there", lists{good, good, good}, []bool{false, true, false}, api.ErrQuorum},
		{"one there, others too long", lists{long, good, long}, []bool{false, true, false}, api.ErrQuorum},
		{"one there, others unlike", lists{good, short, {1, 2, 3}}, []bool{true, false, false}, api.ErrQuorum},
		{"none there", lists{good, good, good}, no, api.ErrQuorum},
		{"none there, all too long", lists{long, long, long}, no, api.ErrQuorum},
	}
}

func TestMendErrors(t *testing.T) {
	for _, w := range wrongs() {
		got, err := stripe.Mend(w.shards, w.have, 2, 1)
		want(t, w.what, got, err, nil, w.err)
		for _, c := range wrongPairs() {
			got, err := stripe.Mend(w.shards, w.have, c[0], c[1])
			want(t, fmt.Sprint(w.what, " by ", c), got, err, nil, api.ErrRange)
		}
	}
	// As many as k and m together must be there, whatever each of them is.
	for _, c := range wrongPairs() {
		if n := c[0] + c[1]; n >= 0 && n < 40 {
			got, err := stripe.Mend(alike(n, 2), slices.Repeat([]bool{true}, n), c[0], c[1])
			want(t, fmt.Sprint("as many as ", c), got, err, nil, api.ErrRange)
		}
	}
}

// TestUnlikeBehindK: more than k are there, and one that is not taken has another length.
func TestUnlikeBehindK(t *testing.T) {
	pairs(func(k, m int) {
		n := k + m
		have := slices.Repeat([]bool{true}, n)
		for at := range n {
			for length, fault := range map[int]api.Errno{0: api.ErrArg, 2: api.ErrArg, 4: api.ErrArg, most + 1: api.ErrLong} {
				shards := alike(n, 3)
				shards[at] = make([]byte, length)
				what := fmt.Sprintf("%d and %d, %d of length %d", k, m, at, length)
				got, err := stripe.Mend(shards, have, k, m)
				want(t, what, got, err, nil, fault)
				data, err := stripe.Join(shards, have, k, m, 3*k)
				wantBytes(t, what, data, err, nil, fault)
				is, err := stripe.Sound(shards, k, m)
				wantSound(t, what, is, err, false, fault)
			}
		}
	})
}

// P3.3

func TestJoin(t *testing.T) {
	whole := lists{{1, 2}, {3, 0}, {143, 1}}
	full := lists{{1, 2}, {3, 4}, {143, 246}}
	for _, c := range []struct {
		shards lists
		have   []bool
		size   int
		data   []byte
		err    api.Errno
	}{
		{whole, []bool{false, true, true}, 3, []byte{1, 2, 3}, api.OK},
		{whole, []bool{true, false, true}, 3, []byte{1, 2, 3}, api.OK},
		{whole, []bool{true, true, false}, 3, []byte{1, 2, 3}, api.OK},
		{whole, []bool{true, true, true}, 3, []byte{1, 2, 3}, api.OK},
		{whole, []bool{true, true, true}, 4, []byte{1, 2, 3, 0}, api.OK},
		{full, []bool{false, true, true}, 3, []byte{1, 2, 3}, api.OK},
		{full, []bool{false, true, true}, 4, []byte{1, 2, 3, 4}, api.OK},
		{lists{{1, 2}, {3, 4}, {9, 9}}, []bool{true, true, true}, 4, []byte{1, 2, 3, 4}, api.OK},
		{lists{{}, nil, {}}, []bool{true, true, true}, 0, nil, api.OK},
		{lists{{1}, nil, {}}, []bool{false, true, true}, 0, nil, api.OK},
		{lists{{1}, {2}, {3}}, []bool{true, true, false}, 1, []byte{1}, api.OK},
		{lists{{1}, {2}, {3}}, []bool{true, true, false}, 2, []byte{1, 2}, api.OK},
		{whole, []bool{false, true, false}, 3, nil, api.ErrQuorum},
		{whole, []bool{false, false, false}, 3, nil, api.ErrQuorum},
		{make(lists, 3), make([]bool, 3), 0, nil, api.ErrQuorum},
		{whole, []bool{true, true, true}, 0, nil, api.ErrArg},
		{whole, []bool{true, true, true}, 2, nil, api.ErrArg},
		{whole, []bool{true, true, true}, 5, nil, api.ErrArg},
		{whole, []bool{true, true, true}, most, nil, api.ErrArg},
		{lists{{}, {}, {}}, []bool{true, true, true}, 1, nil, api.ErrArg},
	} {
		got, err := stripe.Join(c.shards, c.have, 2, 1, c.size)
		wantBytes(t, fmt.Sprint(c.shards, c.have, c.size), got, err, c.data, c.err)
	}
}

// TestJoinErrors: the wrong ones have the length for 3 and for 4 bytes; with another size it is ErrArg where a shard
// that is there has not the length for it, even if there are too few.
func TestJoinErrors(t *testing.T) {
	for _, w := range wrongs() {
		for _, size := range []int{0, 1, 2, 3, 4, 5, 6, most} {
			got, err := stripe.Join(w.shards, w.have, 2, 1, size)
			wantBytes(t, fmt.Sprint(w.what, ", size ", size), got, err, nil, w.joinErr(size))
		}
		for _, size := range []int{-1, -2, most + 1, most + 2, 1 << 32, 1<<32 + 3, -1 << 32, math.MaxInt, math.MinInt} {
			got, err := stripe.Join(w.shards, w.have, 2, 1, size)
			wantBytes(t, fmt.Sprint(w.what, ", size ", size), got, err, nil, api.ErrRange)
		}
		for _, c := range wrongPairs() {
			for _, size := range []int{0, 3, most, -1, most + 1} {
				got, err := stripe.Join(w.shards, w.have, c[0], c[1], size)
				wantBytes(t, fmt.Sprint(w.what, " by ", c, ", size ", size), got, err, nil, api.ErrRange)
			}
		}
	}
}

// joinErr is a wrong one's error with a size, of 2 and 1.
func (w wrong) joinErr(size int) api.Errno {
	if w.err == api.ErrQuorum {
		for i, shard := range w.shards {
			if w.have[i] && len(shard) != (size+1)/2 {
				return api.ErrArg
			}
		}
	}
	return w.err
}

// TestJoinOfWrongSizes: shards that go together have not the length for a size.
func TestJoinOfWrongSizes(t *testing.T) {
	r := rand.New(rand.NewSource(5))
	pairs(func(k, m int) {
		data := drawn(r, 5*k)
		shards := split(data, k, m)
		have := slices.Repeat([]bool{true}, k+m)
		for size := range 9 * k {
			got, err := stripe.Join(shards, have, k, m, size)
			what := fmt.Sprint(5*k, " bytes by ", k, " and ", m, ", size ", size)
			if size > 4*k && size <= 5*k {
				wantBytes(t, what, got, err, data[:size], api.OK)
			} else {
				wantBytes(t, what, got, err, nil, api.ErrArg)
			}
		}
	})
}

func TestJoinOfMostBytes(t *testing.T) {
	r := rand.New(rand.NewSource(6))
	for _, c := range [][2]int{{1, 1}, {2, 1}, {15, 1}, {1, 15}, {8, 8}, {3, 4}} {
		k, m := c[0], c[1]
		for _, size := range []int{most - 1, most} {
			data := drawn(r, size)
			have := slices.Repeat([]bool{true}, k+m)
			for i := range min(k, m) {
				have[i] = false
			}
			got, err := stripe.Join(littered(r, split(data, k, m), have), have, k, m, size)
			wantBytes(t, fmt.Sprint(size, " by ", c), got, err, data, api.OK)
		}
	}
}

func TestSound(t *testing.T) {
	for _, c := range []struct {
		shards lists
		k, m   int
		sound  bool
	}{
		{lists{{1, 2}, {3, 0}, {143, 1}}, 2, 1, true},
		{lists{{1, 2}, {3, 0}, {143, 0}}, 2, 1, false},
		{lists{{1, 2}, {3, 0}, {142, 1}}, 2, 1, false},
		{lists{{1, 2}, {3, 1}, {143, 1}}, 2, 1, false},
		{lists{{3, 0}, {1, 2}, {143, 1}}, 2, 1, false},
		{lists{{9}, {9}}, 1, 1, true},
		{lists{{9}, {8}}, 1, 1, false},
		{lists{{2}, {2}, {1}}, 1, 2, true},
		{lists{{2}, {1}, {2}}, 1, 2, false},
		{lists{{}, nil, {}}, 2, 1, true},
		{make(lists, 16), 15, 1, true},
		{make(lists, 16), 1, 15, true},
		{lists{{0}, {0}, {0}}, 2, 1, true},
		{lists{{0}, {0}, {1}}, 2, 1, false},
	} {
		is, err := stripe.Sound(c.shards, c.k, c.m)
		wantSound(t, fmt.Sprint(c.shards, c.k, c.m), is, err, c.sound, api.OK)
	}
}

func TestSoundErrors(t *testing.T) {
	for _, w := range wrongs() {
		if slices.Contains(w.have, false) || len(w.have) != 3 {
			continue
		}
		is, err := stripe.Sound(w.shards, 2, 1)
		wantSound(t, w.what, is, err, false, w.err)
		for _, c := range wrongPairs() {
			is, err := stripe.Sound(w.shards, c[0], c[1])
			wantSound(t, fmt.Sprint(w.what, " by ", c), is, err, false, api.ErrRange)
		}
	}
	pairs(func(k, m int) {
		for n := range 40 {
			wanted := api.ErrArg
			if n == k+m {
				wanted = api.OK
			}
			is, err := stripe.Sound(make(lists, n), k, m)
			wantSound(t, fmt.Sprint(n, " of ", k, " and ", m), is, err, n == k+m, wanted)
		}
	})
	for _, c := range wrongPairs() {
		if n := c[0] + c[1]; n >= 0 && n < 40 {
			is, err := stripe.Sound(make(lists, n), c[0], c[1])
			wantSound(t, fmt.Sprint("as many as ", c), is, err, false, api.ErrRange)
		}
	}
}

func TestSoundOfMostBytes(t *testing.T) {
	r := rand.New(rand.NewSource(7))
	for _, length := range []int{most - 1, most} {
		first := drawnShards(r, 3, length)
		shards := append(first, made(first, 2)...)
		is, err := stripe.Sound(shards, 3, 2)
		wantSound(t, fmt.Sprint("of ", length), is, err, true, api.OK)
		shards[4][length-1] ^= 128
		is, err = stripe.Sound(shards, 3, 2)
		wantSound(t, fmt.Sprint("of ", length, ", the last byte turned"), is, err, false, api.OK)
	}
}

// P3.4

// TestAnyK: whatever is there of the shards of bytes tells these and all shards, if it is k; of more than 9 shards
// only some choices are drawn.
func TestAnyK(t *testing.T) {
	r := rand.New(rand.NewSource(8))
	pairs(func(k, m int) {
		n := k + m
		ofSize := sizes(k)
		choices(r, n, func(these int) {
			size := ofSize[r.Intn(len(ofSize))]
			data := drawn(r, size)
			whole, err := stripe.Split(data, k, m)
			if err != api.OK {
				t.Fatal(err)
			}
			have := chosen(these, n)
			given := littered(r, whole, have)
			all, mendErr := stripe.Mend(given, have, k, m)
			got, joinErr := stripe.Join(given, have, k, m, size)
			what := fmt.Sprintf("%d bytes by %d and %d, %b there", size, k, m, these)
			if bits.OnesCount(uint(these)) < k {
				want(t, what, all, mendErr, nil, api.ErrQuorum)
				wantBytes(t, what, got, joinErr, nil, api.ErrQuorum)
				return
			}
			want(t, what, all, mendErr, whole, api.OK)
			wantBytes(t, what, got, joinErr, data, api.OK)
			is, err := stripe.Sound(all, k, m)
			wantSound(t, what, is, err, true, api.OK)
		})
	})
}

// TestJustK: each choice of just k shards, of which none is left to tell more.
func TestJustK(t *testing.T) {
	r := rand.New(rand.NewSource(9))
	pairs(func(k, m int) {
		n := k + m
		data := drawn(r, 2*k-1)
		whole := split(data, k, m)
		for these := range 1 << n {
			if bits.OnesCount(uint(these)) != k || n > 10 && r.Intn(40) > 0 {
				continue
			}
			have := chosen(these, n)
			given := make(lists, n)
			for i := range given {
				if have[i] {
					given[i] = whole[i]
				}
			}
			what := fmt.Sprintf("%d and %d, %b there", k, m, these)
			all, err := stripe.Mend(given, have, k, m)
			want(t, what, all, err, whole, api.OK)
			got, err := stripe.Join(given, have, k, m, len(data))
			wantBytes(t, what, got, err, data, api.OK)
		}
	})
}

// TestMendedAreSound: also those that were made of shards of no bytes that anyone split.
func TestMendedAreSound(t *testing.T) {
	r := rand.New(rand.NewSource(10))
	pairs(func(k, m int) {
		n := k + m
		for range 10 {
			have := make([]bool, n)
			for _, i := range r.Perm(n)[:k+r.Intn(m+1)] {
				have[i] = true
			}
			given := drawnShards(r, n, r.Intn(6))
			what := fmt.Sprint(given, have, k, m)
			all, err := stripe.Mend(given, have, k, m)
			if err != api.OK || len(all) != n {
				t.Fatalf("%s: %v, %d", what, all, err)
			}
			is, err := stripe.Sound(all, k, m)
			wantSound(t, what, is, err, true, api.OK)
			left := k
			for i := range all {
				if have[i] && left > 0 {
					left--
					if !bytes.Equal(all[i], given[i]) {
						t.Errorf("%s: shard %d: %v", what, i, all[i])
					}
				}
			}
		}
	})
}

// TestTurned: one byte of one shard, turned in any way.
func TestTurned(t *testing.T) {
	r := rand.New(rand.NewSource(11))
	pairs(func(k, m int) {
		shards, err := stripe.Split(drawn(r, 3*k-1), k, m)
		if err != api.OK {
			t.Fatal(err)
		}
		is, err := stripe.Sound(shards, k, m)
		wantSound(t, fmt.Sprint(k, " and ", m), is, err, true, api.OK)
		for i, shard := range shards {
			for place := range shard {
				for _, turn := range []byte{1, 2, 4, 8, 16, 32, 64, 128, 255, byte(1 + r.Intn(255))} {
					shard[place] ^= turn
					is, err := stripe.Sound(shards, k, m)
					wantSound(t, fmt.Sprintf("%d and %d, byte %d of %d turned by %d", k, m, place, i, turn), is, err, false, api.OK)
					shard[place] ^= turn
				}
			}
		}
	})
}

// Memory

const (
	spare = 0xa5
	ink   = 0x5a
)

// fill overwrites a list, with its spare room.
func fill(l []byte, n byte) {
	l = l[:cap(l)]
	for i := range l {
		l[i] = n
	}
}

// roomyBytes copies a list into one with marked room behind it.
func roomyBytes(l []byte) []byte {
	b := make([]byte, len(l)+9)
	fill(b, spare)
	copy(b, l)
	return b[:len(l)]
}

func roomy(a lists) lists {
	b := make(lists, len(a)+3)
	for i := range b {
		b[i] = []byte{spare}
		if i < len(a) {
			b[i] = roomyBytes(a[i])
		}
	}
	return b[:len(a)]
}

func roomyHave(have []bool) []bool {
	b := slices.Repeat([]bool{true}, len(have)+3)
	copy(b, have)
	return b[:len(have)]
}

// untouched tells whether a list is as it was, its marked room too.
func untouched(b, was []byte) bool {
	room := b[len(b):cap(b)]
	return bytes.Equal(b, was) && bytes.Count(room, []byte{spare}) == len(room)
}

func allUntouched(b, was lists) bool {
	ok := len(b) == len(was)
	for i := range was {
		ok = ok && untouched(b[i], was[i])
	}
	for _, l := range b[len(b):cap(b)] {
		ok = ok && bytes.Equal(l, []byte{spare})
	}
	return ok
}

// call is one of those that are handed shards; what it answers comes as lists.
type call struct {
	what string
	do   func(shards lists, have []bool) (lists, api.Errno)
}

func calls(size int) []call {
	return []call{
		{"Split", func(shards lists, have []bool) (lists, api.Errno) { return stripe.Split(shards[0], 3, 2) }},
		{"Mend", func(shards lists, have []bool) (lists, api.Errno) { return stripe.Mend(shards, have, 3, 2) }},
		{"Join", func(shards lists, have []bool) (lists, api.Errno) {
			data, err := stripe.Join(shards, have, 3, 2, size)
			return lists{data}, err
		}},
		{"Sound", func(shards lists, have []bool) (lists, api.Errno) {
			_, err := stripe.Sound(shards, 3, 2)
			return nil, err
		}},
	}
}

// TestMemory: what was handed in stays as it was, whatever is done to an answer later, and no list of an answer has
// room that another one has.
func TestMemory(t *testing.T) {
	data := []byte("bytes that are parted and put together")
	was := split(data, 3, 2)
	for _, c := range calls(len(data)) {
		for these := range 32 {
			wasHave := chosen(these, 5)
			shards, have := roomy(was), roomyHave(wasHave)
			got, err := c.do(shards, have)
			if err != api.OK && err != api.ErrQuorum {
				t.Fatal(c.what, err)
			}
			kept := copied(got)
			for i := range got {
				fill(got[i], ink)
				for j := i + 1; j < len(got); j++ {
					if !bytes.Equal(got[j], kept[j]) {
						t.Errorf("%s of %b: lists %d and %d share memory", c.what, these, i, j)
					}
				}
			}
			clear(got[:cap(got)])
			if !allUntouched(shards, was) || !slices.Equal(have, wasHave) || slices.Contains(have[5:cap(have)], false) {
				t.Errorf("%s of %b changed what was handed in", c.what, these)
			}
		}
	}
}

// TestMemoryOfErrors: calls that are refused change nothing, either.
func TestMemoryOfErrors(t *testing.T) {
	for _, w := range wrongs() {
		for _, c := range calls(4) {
			if len(w.shards) == 0 {
				continue
			}
			shards, have := roomy(w.shards), roomyHave(w.have)
			c.do(shards, have)
			if !allUntouched(shards, w.shards) || !slices.Equal(have, w.have) {
				t.Errorf("%s of %s changed what was handed in", c.what, w.what)
			}
		}
	}
}

// TestAnswersStay: an answer does not follow what is done to the arguments later.
func TestAnswersStay(t *testing.T) {
	data := []byte("bytes that are parted and put together")
	was := split(data, 3, 2)
	for _, c := range calls(len(data)) {
		shards := roomy(was)
		got, _ := c.do(shards, []bool{true, false, true, true, true})
		kept := copied(got)
		for _, shard := range shards {
			fill(shard, ink)
		}
		clear(shards[:cap(shards)])
		if !same(got, kept) {
			t.Errorf("%s: %v; was %v", c.what, got, kept)
		}
	}
}

// TestSpareRoomIsNotRead: what lies behind a list's end makes no difference.
func TestSpareRoomIsNotRead(t *testing.T) {
	data := []byte("bytes that are parted and put together")
	was := split(data, 3, 2)
	have := []bool{false, true, true, false, true}
	for _, c := range calls(len(data)) {
		wanted, wantedErr := c.do(was, have)
		got, err := c.do(roomy(was), roomyHave(have))
		if err != wantedErr || !same(got, wanted) {
			t.Errorf("%s: %v, %d; want %v, %d", c.what, got, err, wanted, wantedErr)
		}
	}
	long := make([]byte, 2*most)[:3]
	copy(long, []byte{1, 2, 3})
	got, err := stripe.Split(long, 2, 1)
	want(t, "much room", got, err, lists{{1, 2}, {3, 0}, {143, 1}}, api.OK)
	got, err = stripe.Mend(lists{long, long, long}, []bool{true, true, true}, 1, 2)
	want(t, "much room", got, err, split(long, 1, 2), api.OK)
}

// TestPlacesNeedNoMemory: places are gone through in an array on the stack, so that more of them need no more pieces
// of memory.
func TestPlacesNeedNoMemory(t *testing.T) {
	pieces := func(length int) float64 {
		shards := make(lists, 5)
		for i := range shards {
			shards[i] = make([]byte, length)
		}
		have := []bool{false, true, true, false, true}
		return testing.AllocsPerRun(5, func() {
			stripe.Mend(shards, have, 3, 2)
			stripe.Join(shards, have, 3, 2, 3*length)
			stripe.Sound(shards, 3, 2)
			stripe.Split(shards[0], 3, 2)
		})
	}
	if few, many := pieces(10), pieces(1000); few != many {
		t.Errorf("%v pieces of memory for 10 places, %v for 1000", few, many)
	}
}
