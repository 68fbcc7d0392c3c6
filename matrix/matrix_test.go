package matrix_test

import (
	"bytes"
	"fmt"
	"math"
	"math/rand"
	"slices"
	"testing"

	"stowage/api"
	"stowage/gf"
	"stowage/matrix"
)

type rows = [][]byte

func same(a, b rows) bool { return slices.EqualFunc(a, b, bytes.Equal) }

// filled makes a matrix of a size, each number by f.
func filled(height, width int, f func(i, j int) byte) rows {
	a := make(rows, height)
	for i := range a {
		a[i] = make([]byte, width)
		for j := range a[i] {
			a[i][j] = f(i, j)
		}
	}
	return a
}

func zeros(height, width int) rows { return filled(height, width, func(i, j int) byte { return 0 }) }

func one(n int) rows { return filled(n, n, delta) }

func delta(i, j int) byte {
	if i == j {
		return 1
	}
	return 0
}

// drawn makes a matrix of numbers drawn; a few of them only, if most is small, so that many are singular.
func drawn(r *rand.Rand, height, width, most int) rows {
	return filled(height, width, func(i, j int) byte { return byte(r.Intn(most)) })
}

// shuffled tells the rows of a matrix in another order.
func shuffled(r *rand.Rand, a rows) rows {
	b := make(rows, len(a))
	for to, from := range r.Perm(len(a)) {
		b[to] = a[from]
	}
	return b
}

// product multiplies place by place, as the document says it.
func product(a, b rows) rows {
	return filled(len(a), len(b[0]), func(i, j int) byte {
		var sum byte
		for k := range b {
			sum ^= gf.Mul(a[i][k], b[k][j])
		}
		return sum
	})
}

// determinant goes by the first row; there are no signs, as each number is its own negative.
func determinant(a rows) byte {
	if len(a) == 0 {
		return 1
	}
	var sum byte
	for j, n := range a[0] {
		sum ^= gf.Mul(n, determinant(minor(a, 0, j)))
	}
	return sum
}

// minor is a matrix without a row and a column.
func minor(a rows, row, column int) rows {
	var b rows
	for i := range a {
		if i != row {
			b = append(b, slices.Delete(slices.Clone(a[i]), column, column+1))
		}
	}
	return b
}

// adjugate tells the inverse by determinants alone (Cramer), and whether there is one.
func adjugate(a rows) (rows, bool) {
	d := determinant(a)
	if d == 0 {
		return nil, false
	}
	return filled(len(a), len(a), func(i, j int) byte {
		q, _ := gf.Div(determinant(minor(a, j, i)), d)
		return q
	}), true
}

// rank is how great the greatest part is, of as many rows as columns, that has a determinant.
func rank(a rows) int {
	best := 0
	for these := range 1 << len(a) {
		for those := range 1 << len(a[0]) {
			part := cut(a, these, those)
			if len(part) > best && len(part) == len(part[0]) && determinant(part) != 0 {
				best = len(part)
			}
		}
	}
	return best
}

// cut keeps the rows and columns whose bits are set.
func cut(a rows, these, those int) rows {
	var b rows
	for i, row := range a {
		if these>>i&1 == 1 {
			var kept []byte
			for j, n := range row {
				if those>>j&1 == 1 {
					kept = append(kept, n)
				}
			}
			b = append(b, kept)
		}
	}
	return b
}

func want(t *testing.T, what string, got rows, err api.Errno, wanted rows, wantedErr api.Errno) {
	t.Helper()
	if err != wantedErr || !same(got, wanted) || wantedErr != api.OK && got != nil {
		t.Errorf("%s: %v, %d; want %v, %d", what, got, err, wanted, wantedErr)
	}
}

// wrong are matrices that may not be, each with its error.
type wrong struct {
	what string
	a    rows
	err  api.Errno
}

func wrongs() []wrong {
	long := func(at int) rows {
		a := zeros(3, 3)
		a[at] = make([]byte, 33)
		return a
	}
	return []wrong{
		{"nil", nil, api.ErrArg},
		{"no rows", rows{}, api.ErrArg},
		{"no rows, but room for them", make(rows, 0, 4), api.ErrArg},
		{"a row of no numbers", rows{{}}, api.ErrArg},
		{"a nil row", rows{nil}, api.ErrArg},
		{"a row of no numbers, but room", rows{make([]byte, 0, 4)}, api.ErrArg},
		{"32 rows of no numbers", make(rows, 32), api.ErrArg},
		{"no numbers in the first row", rows{{}, {1}}, api.ErrArg},
		{"no numbers in the last row", rows{{1}, {}}, api.ErrArg},
		{"a shorter row", rows{{1, 2}, {3}}, api.ErrArg},
		{"a longer row", rows{{1}, {2, 3}}, api.ErrArg},
		{"the last row shorter", rows{{1, 2}, {3, 4}, {5}}, api.ErrArg},
		{"the last row longer", rows{{1, 2}, {3, 4}, {5, 6, 7}}, api.ErrArg},
		{"one of 32 rows unlike", append(zeros(31, 32), make([]byte, 31)), api.ErrArg},
		{"33 rows", zeros(33, 1), api.ErrLong},
		{"33 rows of 33", zeros(33, 33), api.ErrLong},
		{"33 rows of no numbers", make(rows, 33), api.ErrLong},
		{"33 rows, unlike", append(zeros(32, 2), []byte{1}), api.ErrLong},
		{"very many rows", make(rows, 100000), api.ErrLong},
		{"33 numbers", zeros(1, 33), api.ErrLong},
		{"32 rows of 33 numbers", zeros(32, 33), api.ErrLong},
		{"33 numbers in the first row alone", long(0), api.ErrLong},
		{"33 numbers in the midst alone", long(1), api.ErrLong},
		{"33 numbers in the last row alone", long(2), api.ErrLong},
		{"33 numbers behind a row of none", rows{{}, make([]byte, 33)}, api.ErrLong},
		{"33 numbers behind unlike rows", rows{{1, 2}, {3}, make([]byte, 33)}, api.ErrLong},
		{"very many numbers", rows{make([]byte, 1<<20)}, api.ErrLong},
	}
}

// P2.1

func TestCheck(t *testing.T) {
	for height := 1; height <= 32; height++ {
		for width := 1; width <= 32; width++ {
			if err := matrix.Check(zeros(height, width)); err != api.OK {
				t.Errorf("%d rows of %d: %d", height, width, err)
			}
		}
	}
	for _, w := range wrongs() {
		if err := matrix.Check(w.a); err != w.err {
			t.Errorf("%s: %d; want %d", w.what, err, w.err)
		}
	}
}

func TestCheckLooksAtNoSpareRoom(t *testing.T) {
	a := append(zeros(33, 33), make([]byte, 99))
	if err := matrix.Check(a[:32:33]); err != api.ErrLong {
		t.Error("rows of 33 numbers:", err)
	}
	for i := range a {
		a[i] = a[i][:32]
	}
	if err := matrix.Check(a[:32]); err != api.OK {
		t.Error("room for more rows and numbers:", err)
	}
}

func TestOne(t *testing.T) {
	for n := 1; n <= 32; n++ {
		got, err := matrix.One(n)
		want(t, fmt.Sprint("One of ", n), got, err, one(n), api.OK)
	}
	for _, n := range []int{0, -1, -32, 33, 34, 64, 256, 257, math.MaxInt, math.MinInt, 1<<32 + 1, -1 << 32} {
		got, err := matrix.One(n)
		want(t, fmt.Sprint("One of ", n), got, err, nil, api.ErrRange)
	}
}

// P2.2

func TestMul(t *testing.T) {
	for _, c := range []struct{ a, b, product rows }{
		{rows{{1, 2}, {3, 4}}, rows{{1, 0}, {0, 1}}, rows{{1, 2}, {3, 4}}},
		{rows{{1, 0}, {0, 1}}, rows{{1, 2}, {3, 4}}, rows{{1, 2}, {3, 4}}},
		{rows{{0, 1}, {1, 0}}, rows{{1, 2}, {3, 4}}, rows{{3, 4}, {1, 2}}},
		{rows{{1, 2}, {3, 4}}, rows{{0, 1}, {1, 0}}, rows{{2, 1}, {4, 3}}},
		{rows{{2}}, rows{{142}}, rows{{1}}},
		{rows{{128}}, rows{{2}}, rows{{29}}},
		{rows{{1, 2}}, rows{{3}, {4}}, rows{{11}}},
		{rows{{3}, {4}}, rows{{1, 2}}, rows{{3, 6}, {4, 8}}},
		{rows{{1, 1}}, rows{{7}, {7}}, rows{{0}}},
	} {
		got, err := matrix.Mul(c.a, c.b)
		want(t, fmt.Sprint(c.a, " by ", c.b), got, err, c.product, api.OK)
	}
}

func TestMulOfAllSizes(t *testing.T) {
	r := rand.New(rand.NewSource(1))
	sides := []int{1, 2, 3, 7, 31, 32}
	for _, height := range sides {
		for _, middle := range sides {
			for _, width := range sides {
				a, b := drawn(r, height, middle, 256), drawn(r, middle, width, 256)
				got, err := matrix.Mul(a, b)
				want(t, fmt.Sprint(height, middle, width), got, err, product(a, b), api.OK)
			}
		}
	}
}

func TestMulErrors(t *testing.T) {
	good := zeros(2, 3)
	for _, w := range wrongs() {
		got, err := matrix.Mul(w.a, good)
		want(t, w.what+" first", got, err, nil, w.err)
		got, err = matrix.Mul(good, w.a)
		want(t, w.what+" second", got, err, nil, w.err)
		for _, x := range wrongs() {
			got, err = matrix.Mul(w.a, x.a)
			want(t, w.what+" and "+x.what, got, err, nil, w.err)
		}
	}
	for _, c := range []struct{ a, b rows }{
		{good, zeros(2, 3)}, {good, zeros(4, 3)}, {good, zeros(1, 1)}, {good, zeros(32, 1)},
		{zeros(32, 32), zeros(31, 32)}, {zeros(1, 31), zeros(32, 1)}, {zeros(3, 1), zeros(3, 1)}, {zeros(1, 2), zeros(1, 2)},
	} {
		got, err := matrix.Mul(c.a, c.b)
		want(t, fmt.Sprint(c.a, " by ", c.b), got, err, nil, api.ErrArg)
	}
}

func TestInvert(t *testing.T) {
	for _, c := range []struct{ a, inverse rows }{
		{rows{{1}}, rows{{1}}},
		{rows{{2}}, rows{{142}}},
		{rows{{3}}, rows{{244}}},
		{rows{{1, 1}, {0, 1}}, rows{{1, 1}, {0, 1}}},
		{rows{{2, 0}, {0, 3}}, rows{{142, 0}, {0, 244}}},
		{rows{{0, 2}, {3, 0}}, rows{{0, 244}, {142, 0}}},
		{rows{{0, 1}, {1, 0}}, rows{{0, 1}, {1, 0}}},
		{rows{{0, 1, 0}, {0, 0, 1}, {1, 0, 0}}, rows{{0, 0, 1}, {1, 0, 0}, {0, 1, 0}}},
	} {
		got, err := matrix.Invert(c.a)
		want(t, fmt.Sprint(c.a), got, err, c.inverse, api.OK)
	}
	for _, a := range []rows{
		{{0}},
		{{1, 1}, {1, 1}},
		{{0, 0}, {0, 0}},
		{{0, 0}, {1, 2}},
		{{1, 2}, {0, 0}},
		{{0, 1}, {0, 2}},
		{{1, 0}, {2, 0}},
		{{1, 2}, {2, 4}},
		{{1, 0, 0}, {0, 1, 0}, {1, 1, 0}},
		{{1, 2, 3}, {4, 5, 6}, {5, 7, 5}},
		zeros(32, 32),
	} {
		got, err := matrix.Invert(a)
		want(t, fmt.Sprint(a), got, err, nil, api.ErrSingular)
	}
}

func TestInvertErrors(t *testing.T) {
	for _, w := range wrongs() {
		got, err := matrix.Invert(w.a)
		want(t, w.what, got, err, nil, w.err)
	}
	for _, a := range []rows{
		zeros(1, 2), zeros(2, 1), zeros(2, 3), zeros(3, 2), zeros(31, 32), zeros(32, 31), zeros(1, 32), zeros(32, 1),
		{{1, 0, 0}, {0, 1, 0}}, {{1, 0}, {0, 1}, {0, 0}},
	} {
		got, err := matrix.Invert(a)
		want(t, fmt.Sprint(a), got, err, nil, api.ErrArg)
	}
}

// TestInvertOfOrders: each order of rows and of places needs other rows exchanged.
func TestInvertOfOrders(t *testing.T) {
	r := rand.New(rand.NewSource(2))
	for n := 1; n <= 32; n++ {
		for range 8 {
			a := shuffled(r, one(n))
			got, err := matrix.Invert(a)
			want(t, fmt.Sprint(a), got, err, filled(n, n, func(i, j int) byte { return a[j][i] }), api.OK)
		}
	}
}

func wantRank(t *testing.T, a rows, wanted int) {
	t.Helper()
	if n, err := matrix.Rank(a); n != wanted || err != api.OK {
		t.Errorf("rank of %v: %d, %d; want %d", a, n, err, wanted)
	}
}

func TestRank(t *testing.T) {
	for _, c := range []struct {
		a rows
		n int
	}{
		{rows{{0}}, 0},
		{rows{{9}}, 1},
		{rows{{1, 1}, {1, 1}}, 1},
		{rows{{1, 1}, {0, 1}}, 2},
		{rows{{1, 2}, {2, 4}}, 1},
		{rows{{0, 0}, {0, 3}}, 1},
		{rows{{0, 0, 5}}, 1},
		{rows{{0}, {0}, {5}}, 1},
		{rows{{1, 2, 3}, {4, 5, 6}, {5, 7, 5}}, 2},
		{rows{{1, 0, 0}, {0, 0, 1}}, 2},
		{rows{{0, 1}, {1, 0}, {1, 1}}, 2},
		{rows{{0, 0}, {0, 1}, {0, 2}, {1, 0}}, 2},
		{zeros(32, 32), 0},
		{one(32), 32},
		{filled(32, 1, func(i, j int) byte { return byte(i) }), 1},
		{filled(1, 32, func(i, j int) byte { return byte(j) }), 1},
	} {
		wantRank(t, c.a, c.n)
	}
	for _, w := range wrongs() {
		if n, err := matrix.Rank(w.a); n != 0 || err != w.err {
			t.Errorf("%s: %d, %d; want 0, %d", w.what, n, err, w.err)
		}
	}
}

// TestRankOfSmallOnes holds ranks against determinants of parts.
func TestRankOfSmallOnes(t *testing.T) {
	r := rand.New(rand.NewSource(3))
	for height := 1; height <= 4; height++ {
		for width := 1; width <= 4; width++ {
			for _, most := range []int{2, 3, 4, 256} {
				for range 20 {
					a := drawn(r, height, width, most)
					wantRank(t, a, rank(a))
				}
			}
		}
	}
}

// TestRankOfGreatOnes: a product of n places between has rank n, if the first has the one of n among its rows, the
// second among its columns.
func TestRankOfGreatOnes(t *testing.T) {
	r := rand.New(rand.NewSource(4))
	for n := 1; n <= 32; n++ {
		for range 4 {
			height, width := n+r.Intn(33-n), n+r.Intn(33-n)
			first := shuffled(r, append(one(n), drawn(r, height-n, n, 256)...))
			second := filled(n, width, func(i, j int) byte {
				if j >= width-n {
					return delta(i, j-(width-n))
				}
				return byte(r.Intn(256))
			})
			wantRank(t, product(first, second), n)
		}
	}
}

// P2.3

func TestPick(t *testing.T) {
	a := rows{{1, 2}, {3, 4}, {5, 6}}
	for _, c := range []struct {
		these  []int
		picked rows
	}{
		{[]int{0}, rows{{1, 2}}},
		{[]int{2}, rows{{5, 6}}},
		{[]int{1, 0}, rows{{3, 4}, {1, 2}}},
		{[]int{0, 1, 2}, a},
		{[]int{2, 1, 0}, rows{{5, 6}, {3, 4}, {1, 2}}},
		{[]int{1, 1, 0, 1}, rows{{3, 4}, {3, 4}, {1, 2}, {3, 4}}},
		{make([]int, 31), slices.Repeat(a[:1], 31)},
		{make([]int, 32), slices.Repeat(a[:1], 32)},
		{make([]int, 1, 64), a[:1]},
	} {
		got, err := matrix.Pick(a, c.these)
		want(t, fmt.Sprint(c.these), got, err, c.picked, api.OK)
	}
	great := filled(32, 32, func(i, j int) byte { return byte(7*i + j) })
	got, err := matrix.Pick(great, []int{31, 0, 30})
	want(t, "of 32", got, err, rows{great[31], great[0], great[30]}, api.OK)
}

func TestPickErrors(t *testing.T) {
	a := rows{{1, 2}, {3, 4}}
	past := slices.Repeat([]int{9}, 33)
	for _, c := range []struct {
		these []int
		err   api.Errno
	}{
		{nil, api.ErrArg},
		{[]int{}, api.ErrArg},
		{make([]int, 0, 4), api.ErrArg},
		{make([]int, 33), api.ErrLong},
		{make([]int, 100000), api.ErrLong},
		{past, api.ErrLong},
		{past[:32], api.ErrRange},
		{[]int{2}, api.ErrRange},
		{[]int{-1}, api.ErrRange},
		{[]int{0, 1, 2}, api.ErrRange},
		{[]int{0, -1, 1}, api.ErrRange},
		{[]int{256}, api.ErrRange},
		{[]int{1 << 32}, api.ErrRange},
		{[]int{math.MaxInt}, api.ErrRange},
		{[]int{math.MinInt}, api.ErrRange},
	} {
		got, err := matrix.Pick(a, c.these)
		want(t, fmt.Sprint(c.these), got, err, nil, c.err)
	}
	for _, w := range wrongs() {
		for _, these := range [][]int{{0}, nil, {-1}, past} {
			got, err := matrix.Pick(w.a, these)
			want(t, w.what, got, err, nil, w.err)
		}
	}
	// A row that only its spare room has is none.
	spare := append(a, []byte{5, 6})
	got, err := matrix.Pick(spare[:2], []int{2})
	want(t, "spare room", got, err, nil, api.ErrRange)
}

func TestCode(t *testing.T) {
	for k := 1; k <= 15; k++ {
		for m := 1; k+m <= 16; m++ {
			wanted := filled(k+m, k, func(i, j int) byte {
				if i < k {
					return delta(i, j)
				}
				n, _ := gf.Inv(byte(i ^ j))
				return n
			})
			got, err := matrix.Code(k, m)
			want(t, fmt.Sprint("code of ", k, m), got, err, wanted, api.OK)
		}
	}
	got, err := matrix.Code(2, 1)
	want(t, "code of 2 and 1", got, err, rows{{1, 0}, {0, 1}, {142, 244}}, api.OK)
	got, err = matrix.Code(1, 1)
	want(t, "code of 1 and 1", got, err, rows{{1}, {1}}, api.OK)
}

func TestCodeErrors(t *testing.T) {
	for _, c := range []struct{ k, m int }{
		{0, 1}, {1, 0}, {0, 0}, {-1, 1}, {1, -1}, {-1, -1}, {0, 16}, {16, 0}, {-1, 17}, {17, -1}, {17, 0}, {0, 17},
		{16, 1}, {1, 16}, {15, 2}, {2, 15}, {8, 9}, {9, 8}, {16, 16}, {32, 1}, {1, 32}, {100, 200}, {257, 1}, {1, 257},
		{math.MaxInt, 1}, {1, math.MaxInt}, {math.MaxInt, math.MaxInt}, {math.MinInt, 1}, {1, math.MinInt},
		{math.MinInt, math.MinInt}, {math.MaxInt, math.MinInt}, {math.MinInt, math.MaxInt}, {1 << 32, 1}, {1<<32 + 1, 1},
	} {
		got, err := matrix.Code(c.k, c.m)
		want(t, fmt.Sprint("code of ", c.k, c.m), got, err, nil, api.ErrRange)
	}
}

// P2.4

// sound holds what Invert says of a matrix against its rank and its products on both sides, and tells whether there
// is an inverse.
func sound(t *testing.T, a rows) bool {
	t.Helper()
	n, err := matrix.Rank(a)
	if err != api.OK {
		t.Fatalf("rank of %v: %d", a, err)
	}
	inverse, err := matrix.Invert(a)
	if n < len(a) {
		want(t, fmt.Sprint(a), inverse, err, nil, api.ErrSingular)
		return false
	}
	if err != api.OK {
		t.Fatalf("%v: %d", a, err)
	}
	for _, pair := range [][2]rows{{a, inverse}, {inverse, a}} {
		if got, err := matrix.Mul(pair[0], pair[1]); err != api.OK || !same(got, one(len(a))) {
			t.Errorf("%v by %v: %v, %d; want the one", pair[0], pair[1], got, err)
		}
	}
	return true
}

// TestInversesOfSmallOnes: all matrices of a few numbers, held against determinants.
func TestInversesOfSmallOnes(t *testing.T) {
	for _, c := range []struct {
		n       int
		numbers []byte
	}{
		{1, filled(1, 256, func(i, j int) byte { return byte(j) })[0]},
		{2, []byte{0, 1, 2, 3, 4, 6, 142, 244, 255}},
		{3, []byte{0, 1, 2}},
	} {
		places := c.n * c.n
		for which := range int(math.Pow(float64(len(c.numbers)), float64(places))) {
			a := filled(c.n, c.n, func(i, j int) byte {
				n := c.numbers[which%len(c.numbers)]
				which /= len(c.numbers)
				return n
			})
			inverse, there := adjugate(a)
			if sound(t, a) != there {
				t.Errorf("%v: want an inverse: %v", a, there)
			}
			if got, _ := matrix.Invert(a); !same(got, inverse) {
				t.Errorf("%v: %v; want %v", a, got, inverse)
			}
		}
	}
}

func TestInversesOfAllSides(t *testing.T) {
	r := rand.New(rand.NewSource(5))
	with, without := 0, 0
	for n := 1; n <= 32; n++ {
		for _, most := range []int{2, 3, 256} {
			for range 10 {
				if sound(t, drawn(r, n, n, most)) {
					with++
				} else {
					without++
				}
			}
		}
	}
	if with < 100 || without < 100 {
		t.Errorf("only %d with an inverse, %d without one", with, without)
	}
}

// TestSingularByOneRow: a row that is a sum of multiples of the others, wherever it stands, and no other fault.
func TestSingularByOneRow(t *testing.T) {
	r := rand.New(rand.NewSource(6))
	for n := 2; n <= 32; n++ {
		for _, at := range []int{0, n / 2, n - 1} {
			a := shuffled(r, one(n))
			clear(a[at])
			for i, row := range a {
				times := byte(r.Intn(256))
				for j := range row {
					if i != at {
						a[at][j] ^= gf.Mul(times, row[j])
					}
				}
			}
			wantRank(t, a, n-1)
			if sound(t, a) {
				t.Errorf("%v has an inverse", a)
			}
		}
	}
}

func TestProductsTogether(t *testing.T) {
	r := rand.New(rand.NewSource(7))
	mul := func(a, b rows) rows {
		p, err := matrix.Mul(a, b)
		if err != api.OK {
			t.Fatal(err)
		}
		return p
	}
	for range 100 {
		side := func() int { return 1 + r.Intn(32) }
		h, k, l, w := side(), side(), side(), side()
		a, b, c := drawn(r, h, k, 256), drawn(r, k, l, 256), drawn(r, l, w, 256)
		if !same(mul(mul(a, b), c), mul(a, mul(b, c))) {
			t.Errorf("%v, %v, %v: products differ", a, b, c)
		}
	}
}

// TestAnyRowsOfCodes: whichever k rows stay, and in whichever order, they have an inverse. Of codes of more than 10
// rows only some choices are drawn, as there are too many for a quick test.
func TestAnyRowsOfCodes(t *testing.T) {
	r := rand.New(rand.NewSource(8))
	for k := 1; k <= 15; k++ {
		for m := 1; k+m <= 16; m++ {
			code, err := matrix.Code(k, m)
			if err != api.OK {
				t.Fatal(err)
			}
			for these := range 1 << (k + m) {
				part := cut(code, these, 1<<k-1)
				if len(part) != k || k+m > 10 && r.Intn(40) > 0 {
					continue
				}
				if !sound(t, part) || !sound(t, shuffled(r, part)) {
					t.Errorf("code of %d and %d: rows %b have no inverse", k, m, these)
				}
			}
		}
	}
}

// Memory

// roomy copies a matrix into lists with spare room, all of it marked.
func roomy(a rows) rows {
	b := make(rows, len(a), len(a)+4)
	for i, row := range a {
		b[i] = append(make([]byte, 0, len(row)+8), row...)
		mark(b[i], 0xa5)
	}
	for i := range b[len(b):cap(b)] {
		b[len(b):cap(b)][i] = []byte{0xa5}
	}
	return b
}

func mark(l []byte, n byte) {
	for i := range l[len(l):cap(l)] {
		l[len(l):cap(l)][i] = n
	}
}

// marked tells whether a matrix is as roomy left it, its spare room too.
func marked(b, a rows) bool {
	ok := same(b, a)
	for _, row := range b {
		for _, n := range row[len(row):cap(row)] {
			ok = ok && n == 0xa5
		}
	}
	for _, row := range b[len(b):cap(b)] {
		ok = ok && bytes.Equal(row, []byte{0xa5})
	}
	return ok
}

// scribble overwrites all of a matrix, its spare room too.
func scribble(a rows) {
	for _, row := range a {
		mark(row[:0], 0x5a)
	}
	clear(a[:cap(a)])
}

// calls are all that answer a matrix out of others.
func calls() map[string]func(a, b rows) (rows, api.Errno) {
	return map[string]func(a, b rows) (rows, api.Errno){
		"Mul":            matrix.Mul,
		"Mul by the one": func(a, b rows) (rows, api.Errno) { return matrix.Mul(a, rows{{1, 0}, {0, 1}}) },
		"Invert":         func(a, b rows) (rows, api.Errno) { return matrix.Invert(a) },
		"Pick":           func(a, b rows) (rows, api.Errno) { return matrix.Pick(a, []int{0, 1}) },
		"Pick twice":     func(a, b rows) (rows, api.Errno) { return matrix.Pick(a, []int{1, 1}) },
		"Check": func(a, b rows) (rows, api.Errno) {
			return rows{}, matrix.Check(a)
		},
		"Rank": func(a, b rows) (rows, api.Errno) {
			_, err := matrix.Rank(a)
			return rows{}, err
		},
	}
}

func TestNothingIsChangedOrShared(t *testing.T) {
	for _, a := range []rows{{{0, 2}, {3, 4}}, {{1, 0}, {0, 1}}, {{1, 1}, {1, 1}}, {{0, 0}, {0, 7}}} {
		b := rows{{5, 6}, {7, 8}}
		for name, call := range calls() {
			ra, rb := roomy(a), roomy(b)
			plain, plainErr := call(a, b)
			got, err := call(ra, rb)
			if err != plainErr || !same(got, plain) {
				t.Errorf("%s: spare room tells: %v, %d; want %v, %d", name, got, err, plain, plainErr)
			}
			if !marked(ra, a) || !marked(rb, b) {
				t.Errorf("%s of %v changes what it is handed", name, a)
			}
			scribble(ra)
			scribble(rb)
			if !same(got, plain) {
				t.Errorf("%s of %v: the answer changes with what was handed in", name, a)
			}
			ra, rb = roomy(a), roomy(b)
			got, _ = call(ra, rb)
			scribble(got)
			if !marked(ra, a) || !marked(rb, b) {
				t.Errorf("%s of %v hands out what it was handed", name, a)
			}
		}
	}
}

// TestRowsOfAnswersAreApart: what is written to one row, or behind it, is seen in no other one, nor in a later answer.
func TestRowsOfAnswersAreApart(t *testing.T) {
	a := rows{{0, 2}, {3, 4}}
	all := calls()
	all["One"] = func(a, b rows) (rows, api.Errno) { return matrix.One(5) }
	all["Code"] = func(a, b rows) (rows, api.Errno) { return matrix.Code(3, 4) }
	for name, call := range all {
		first, _ := call(a, a)
		for i := range first {
			got, _ := call(a, a)
			got[i] = got[i][:cap(got[i])]
			for j := range got[i] {
				got[i][j] ^= 0xff
			}
			for j := range first {
				if j != i && !bytes.Equal(got[j], first[j]) {
					t.Errorf("%s: row %d changes with row %d", name, j, i)
				}
			}
			if again, _ := call(a, a); !same(again, first) {
				t.Errorf("%s: a later answer is %v, not %v", name, again, first)
			}
		}
	}
}

// TestSharedRows: rows of one memory, or one matrix handed in twice, are told as any other.
func TestSharedRows(t *testing.T) {
	row := []byte{3, 4}
	a := rows{row, row}
	got, err := matrix.Mul(a, a)
	want(t, "Mul", got, err, product(rows{{3, 4}, {3, 4}}, rows{{3, 4}, {3, 4}}), api.OK)
	got, err = matrix.Invert(a)
	want(t, "Invert", got, err, nil, api.ErrSingular)
	wantRank(t, a, 1)
	long := []byte{1, 2, 3}
	b := rows{long[0:2], long[1:3]}
	wantInverse, _ := adjugate(rows{{1, 2}, {2, 3}})
	got, err = matrix.Invert(b)
	want(t, "Invert of overlapping rows", got, err, wantInverse, api.OK)
	if !bytes.Equal(long, []byte{1, 2, 3}) {
		t.Error("changed:", long)
	}
}

func TestRowsToPickAreLeftAlone(t *testing.T) {
	these := []int{1, 0, 77, 78}
	if _, err := matrix.Pick(rows{{1}, {2}}, these[:2]); err != api.OK {
		t.Error(err)
	}
	if !slices.Equal(these, []int{1, 0, 77, 78}) {
		t.Error("changed:", these)
	}
}
