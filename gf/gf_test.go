package gf_test

import (
	"bytes"
	"math"
	"testing"

	"stowage/api"
	"stowage/gf"
)

// product multiplies as the document says it, apart from the program: all of the polynomials' product first, the
// rest of its division by 285 then.
func product(a, b byte) byte {
	whole := 0
	for i := range 8 {
		if b>>i&1 == 1 {
			whole ^= int(a) << i
		}
	}
	for i := 14; i >= 8; i-- {
		if whole>>i&1 == 1 {
			whole ^= 285 << (i - 8)
		}
	}
	return byte(whole)
}

// inverse looks for the one number that makes 1 with a.
func inverse(a byte) byte {
	for b := range 256 {
		if product(a, byte(b)) == 1 {
			return byte(b)
		}
	}
	return 0
}

// powers multiplies a number by itself, one by one: its powers of 0 up to below n.
func powers(a byte, n int) []byte {
	l := make([]byte, n)
	p := byte(1)
	for i := range l {
		l[i] = p
		p = product(p, a)
	}
	return l
}

// each calls f with all numbers.
func each(f func(a byte)) {
	for a := range 256 {
		f(byte(a))
	}
}

// pairs calls f with all pairs of numbers.
func pairs(f func(a, b byte)) {
	each(func(a byte) { each(func(b byte) { f(a, b) }) })
}

func wantByte(t *testing.T, what string, got byte, err api.Errno, want byte, wantErr api.Errno) {
	t.Helper()
	if got != want || err != wantErr {
		t.Errorf("%s: %d, %d; want %d, %d", what, got, err, want, wantErr)
	}
}

// exponents are those at which a power could go wrong.
func exponents() []int {
	l := []int{math.MinInt, math.MinInt + 1, math.MaxInt, math.MaxInt - 1, math.MinInt32, math.MaxInt32}
	for n := -600; n <= 600; n++ {
		l = append(l, n)
	}
	for i := range 62 {
		l = append(l, 1<<i, -1<<i, 1<<i-1)
	}
	return l
}

// P1.1

func TestAddAllPairs(t *testing.T) {
	pairs(func(a, b byte) {
		if got := gf.Add(a, b); got != a^b {
			t.Fatalf("Add(%d, %d) = %d", a, b, got)
		}
	})
}

func TestMulAllPairs(t *testing.T) {
	pairs(func(a, b byte) {
		if got, want := gf.Mul(a, b), product(a, b); got != want {
			t.Fatalf("Mul(%d, %d) = %d; want %d", a, b, got, want)
		}
	})
}

func TestExamplesOfSumsAndProducts(t *testing.T) {
	for _, x := range []struct{ got, want byte }{
		{gf.Add(83, 202), 153},
		{gf.Mul(128, 2), 29},
		{gf.Mul(3, 7), 9},
		{gf.Mul(255, 255), 226},
		{gf.Mul(0, 255), 0},
		{gf.Mul(255, 0), 0},
		{gf.Mul(1, 255), 255},
	} {
		if x.got != x.want {
			t.Errorf("%d; want %d", x.got, x.want)
		}
	}
}

func TestInvAll(t *testing.T) {
	for a := 1; a < 256; a++ {
		got, err := gf.Inv(byte(a))
		wantByte(t, "Inv", got, err, inverse(byte(a)), api.OK)
	}
	got, err := gf.Inv(1)
	wantByte(t, "Inv(1)", got, err, 1, api.OK)
	got, err = gf.Inv(2)
	wantByte(t, "Inv(2)", got, err, 142, api.OK)
	got, err = gf.Inv(0)
	wantByte(t, "Inv(0)", got, err, 0, api.ErrRange)
}

func TestDivAllPairs(t *testing.T) {
	pairs(func(a, b byte) {
		got, err := gf.Div(a, b)
		if b == 0 {
			wantByte(t, "Div by 0", got, err, 0, api.ErrRange)
			return
		}
		// The quotient is the one number that makes a with b.
		if err != api.OK || product(got, b) != a {
			t.Fatalf("Div(%d, %d) = %d, %d", a, b, got, err)
		}
	})
	got, err := gf.Div(9, 7)
	wantByte(t, "Div(9, 7)", got, err, 3, api.OK)
}

// P1.2

func TestPowSmallExponents(t *testing.T) {
	each(func(a byte) {
		for n, want := range powers(a, 600) {
			got, err := gf.Pow(a, n)
			if got != want || err != api.OK {
				t.Fatalf("Pow(%d, %d) = %d, %d; want %d", a, n, got, err, want)
			}
		}
	})
}

func TestPowBelowZero(t *testing.T) {
	for a := 1; a < 256; a++ {
		for n, want := range powers(inverse(byte(a)), 600) {
			got, err := gf.Pow(byte(a), -n)
			if got != want || err != api.OK {
				t.Fatalf("Pow(%d, %d) = %d, %d; want %d", a, -n, got, err, want)
			}
		}
	}
}

func TestPowOfZero(t *testing.T) {
	for _, n := range exponents() {
		got, err := gf.Pow(0, n)
		switch {
		case n < 0:
			wantByte(t, "Pow(0, below 0)", got, err, 0, api.ErrRange)
		case n == 0:
			wantByte(t, "Pow(0, 0)", got, err, 1, api.OK)
		default:
			wantByte(t, "Pow(0, above 0)", got, err, 0, api.OK)
		}
	}
}

func TestPowFarExponents(t *testing.T) {
	// Each number but 0 makes 1 at 255, so that a far exponent's power is that of its rest.
	for a := 1; a < 256; a++ {
		near := powers(byte(a), 255)
		for _, n := range exponents() {
			got, err := gf.Pow(byte(a), n)
			if want := near[(n%255+255)%255]; got != want || err != api.OK {
				t.Fatalf("Pow(%d, %d) = %d, %d; want %d", a, n, got, err, want)
			}
		}
	}
}

func TestExamplesOfPowers(t *testing.T) {
	for _, x := range []struct {
		a    byte
		n    int
		want byte
		err  api.Errno
	}{
		{2, 8, 29, api.OK},
		{2, 255, 1, api.OK},
		{0, 0, 1, api.OK},
		{2, -1, 142, api.OK},
		{0, -1, 0, api.ErrRange},
	} {
		got, err := gf.Pow(x.a, x.n)
		wantByte(t, "Pow", got, err, x.want, x.err)
	}
}

func TestLogAll(t *testing.T) {
	seen := make(map[byte]bool)
	for n, a := range powers(2, 255) {
		seen[a] = true
		if got, err := gf.Log(a); got != n || err != api.OK {
			t.Errorf("Log(%d) = %d, %d; want %d", a, got, err, n)
		}
	}
	if len(seen) != 255 || seen[0] {
		t.Errorf("the generator's powers are %d numbers", len(seen))
	}
	if got, err := gf.Log(0); got != 0 || err != api.ErrRange {
		t.Errorf("Log(0) = %d, %d", got, err)
	}
	if got, err := gf.Log(29); got != 8 || err != api.OK {
		t.Errorf("Log(29) = %d, %d", got, err)
	}
}

// P1.3

// numbers makes a list that tells places apart, and seeds.
func numbers(n, seed int) []byte {
	l := make([]byte, n)
	for i := range l {
		l[i] = byte(i*7 + i>>8*31 + seed)
	}
	return l
}

func lengths() []int {
	return []int{0, 1, 2, 3, 7, 8, 9, 255, 256, 257, 1000, api.MaxData - 1, api.MaxData}
}

func TestAxpyPlaceByPlace(t *testing.T) {
	for _, n := range lengths() {
		y, x := numbers(n, 3), numbers(n, 100)
		for _, a := range []byte{0, 1, 2, 29, 128, 255} {
			got, err := gf.Axpy(y, x, a)
			if err != api.OK || len(got) != n {
				t.Fatalf("%d numbers: %d answered, %d", n, len(got), err)
			}
			for i := range got {
				if want := y[i] ^ product(a, x[i]); got[i] != want {
					t.Fatalf("a %d, place %d of %d: %d; want %d", a, i, n, got[i], want)
				}
			}
		}
	}
}

func TestAxpyAllNumbers(t *testing.T) {
	pairs(func(a, b byte) {
		got, err := gf.Axpy([]byte{b, 0}, []byte{77, b}, a)
		want := []byte{b ^ product(a, 77), product(a, b)}
		if err != api.OK || !bytes.Equal(got, want) {
			t.Fatalf("a %d, b %d: %v, %d; want %v", a, b, got, err, want)
		}
	})
}

func TestDotAddsProducts(t *testing.T) {
	for _, n := range lengths() {
		x, y := numbers(n, 5), numbers(n, 201)
		want := byte(0)
		for i := range x {
			want ^= product(x[i], y[i])
		}
		got, err := gf.Dot(x, y)
		wantByte(t, "Dot", got, err, want, api.OK)
	}
	pairs(func(a, b byte) {
		got, err := gf.Dot([]byte{a, 1}, []byte{b, 9})
		wantByte(t, "Dot of two", got, err, product(a, b)^9, api.OK)
	})
}

func TestDotLooksAtEachPlace(t *testing.T) {
	const n = api.MaxData
	x, y := make([]byte, n), bytes.Repeat([]byte{3}, n)
	for _, i := range []int{0, 1, 255, 256, n/2 - 1, n / 2, n - 2, n - 1} {
		x[i] = 7
		got, err := gf.Dot(x, y)
		wantByte(t, "Dot", got, err, 9, api.OK)
		x[i] = 0
	}
}

func TestExamplesOfLists(t *testing.T) {
	got, err := gf.Axpy([]byte{1, 2}, []byte{1, 1}, 2)
	if !bytes.Equal(got, []byte{3, 0}) || err != api.OK {
		t.Errorf("Axpy: %v, %d", got, err)
	}
	n, err := gf.Dot([]byte{1, 2}, []byte{3, 4})
	wantByte(t, "Dot(1 2, 3 4)", n, err, 11, api.OK)
	n, err = gf.Dot([]byte{1}, nil)
	wantByte(t, "Dot(1, none)", n, err, 0, api.ErrArg)
}

func TestEmptyAndNilListsAreTheSame(t *testing.T) {
	for _, x := range [][]byte{nil, {}, make([]byte, 0, 8)} {
		for _, y := range [][]byte{nil, {}, make([]byte, 0, 8)} {
			if got, err := gf.Axpy(y, x, 9); len(got) != 0 || err != api.OK {
				t.Errorf("Axpy: %v, %d", got, err)
			}
			got, err := gf.Dot(x, y)
			wantByte(t, "Dot", got, err, 0, api.OK)
		}
	}
}

func TestListsThatAreRefused(t *testing.T) {
	const most = api.MaxData
	for _, x := range []struct {
		one, other int
		want       api.Errno
	}{
		{0, 1, api.ErrArg},
		{1, 2, api.ErrArg},
		{3, 2, api.ErrArg},
		{0, most, api.ErrArg},
		{most - 1, most, api.ErrArg},
		// Too long counts ahead of unlike, whichever of the two it is.
		{0, most + 1, api.ErrLong},
		{most, most + 1, api.ErrLong},
		{most + 1, most + 1, api.ErrLong},
		{most + 1, most + 2, api.ErrLong},
		{most + 1, 4 * most, api.ErrLong},
	} {
		for _, n := range [][2]int{{x.one, x.other}, {x.other, x.one}} {
			p, q := bytes.Repeat([]byte{1}, n[0]), bytes.Repeat([]byte{1}, n[1])
			if got, err := gf.Axpy(p, q, 1); len(got) != 0 || err != x.want {
				t.Errorf("Axpy of %v: %d numbers, %d; want %d", n, len(got), err, x.want)
			}
			got, err := gf.Dot(p, q)
			wantByte(t, "Dot", got, err, 0, x.want)
		}
	}
}

func TestSpareRoomIsNoPartOfAList(t *testing.T) {
	short, long := []byte{1, 2, 3, 4}[:2], []byte{1, 2, 3}
	if got, err := gf.Axpy(short, long, 1); len(got) != 0 || err != api.ErrArg {
		t.Errorf("Axpy: %v, %d", got, err)
	}
	if got, err := gf.Axpy(long, short, 1); len(got) != 0 || err != api.ErrArg {
		t.Errorf("Axpy: %v, %d", got, err)
	}
	got, err := gf.Dot(short, long)
	wantByte(t, "Dot", got, err, 0, api.ErrArg)
	got, err = gf.Dot(long, short)
	wantByte(t, "Dot", got, err, 0, api.ErrArg)

	// A list within the bound is not too long by its spare room.
	roomy := make([]byte, 2, api.MaxData+1)
	roomy[0], roomy[1] = 3, 4
	got, err = gf.Dot(short, roomy)
	wantByte(t, "Dot", got, err, 11, api.OK)
	if l, err := gf.Axpy(roomy, short, 1); !bytes.Equal(l, []byte{2, 6}) || err != api.OK {
		t.Errorf("Axpy: %v, %d", l, err)
	}
}

func TestNothingHandedInIsChangedOrShared(t *testing.T) {
	const n, room = 40, 64
	x, y := numbers(room, 1), numbers(room, 50)
	keepX, keepY := bytes.Clone(x), bytes.Clone(y)
	unchanged := func(when string) {
		t.Helper()
		if !bytes.Equal(x, keepX) || !bytes.Equal(y, keepY) {
			t.Fatalf("%s changed what was handed in", when)
		}
	}

	for _, a := range []byte{0, 1, 2, 255} {
		sums, err := gf.Axpy(y[:n], x[:n], a)
		if err != api.OK {
			t.Fatal(err)
		}
		unchanged("Axpy")
		whole := sums[:cap(sums)]
		for i := range whole {
			whole[i] ^= 255
		}
		unchanged("writing to Axpy's answer")
	}

	gf.Dot(x[:n], y[:n])
	unchanged("Dot")
	gf.Axpy(y[:n], x[:n-1], 3)
	gf.Axpy(y[:n-1], x[:n], 3)
	gf.Dot(x[:n], y[:n-1])
	unchanged("a refused call")
}

func TestAnswersAreNotKept(t *testing.T) {
	x, y := numbers(100, 9), numbers(100, 90)
	first, _ := gf.Axpy(y, x, 29)
	want := bytes.Clone(first)
	second, _ := gf.Axpy(y, x, 29)
	clear(second[:cap(second)])
	clear(x)
	clear(y)
	if !bytes.Equal(first, want) {
		t.Error("an answer changed behind its call")
	}
}

func TestListsThatAreOne(t *testing.T) {
	l := numbers(300, 11)
	keep := bytes.Clone(l)
	sums, err := gf.Axpy(l, l, 1)
	if err != api.OK || !bytes.Equal(sums, make([]byte, 300)) {
		t.Errorf("a list added to itself: %d", err)
	}
	want := byte(0)
	for _, n := range l {
		want ^= product(n, n)
	}
	got, err := gf.Dot(l, l)
	wantByte(t, "Dot of a list with itself", got, err, want, api.OK)
	if !bytes.Equal(l, keep) {
		t.Error("the list was changed")
	}
}

// P1.4

func TestSumsAndProductsChangeAbout(t *testing.T) {
	pairs(func(a, b byte) {
		if gf.Add(a, b) != gf.Add(b, a) || gf.Mul(a, b) != gf.Mul(b, a) {
			t.Fatalf("%d and %d", a, b)
		}
	})
	each(func(a byte) {
		if gf.Add(a, a) != 0 || gf.Add(a, 0) != a || gf.Mul(a, 1) != a || gf.Mul(a, 0) != 0 {
			t.Fatalf("%d by itself, with 0, with 1", a)
		}
	})
}

func TestSumsAndProductsPutTogether(t *testing.T) {
	// All threes are asked of tables that the calls fill, as calling for each would take long.
	var sum, mul [256][256]byte
	pairs(func(a, b byte) { sum[a][b], mul[a][b] = gf.Add(a, b), gf.Mul(a, b) })
	pairs(func(a, b byte) {
		each(func(c byte) {
			if sum[sum[a][b]][c] != sum[a][sum[b][c]] {
				t.Fatalf("sums of %d %d %d", a, b, c)
			}
			if mul[mul[a][b]][c] != mul[a][mul[b][c]] {
				t.Fatalf("products of %d %d %d", a, b, c)
			}
			if mul[a][sum[b][c]] != sum[mul[a][b]][mul[a][c]] {
				t.Fatalf("%d times the sum of %d and %d", a, b, c)
			}
		})
	})
}

func TestDividedAndMultipliedAgain(t *testing.T) {
	pairs(func(a, b byte) {
		if b == 0 {
			return
		}
		q, err := gf.Div(a, b)
		if err != api.OK || gf.Mul(q, b) != a {
			t.Fatalf("%d by %d, times %d: %d", a, b, b, err)
		}
		back, err := gf.Div(gf.Mul(a, b), b)
		wantByte(t, "multiplied and divided", back, err, a, api.OK)
	})
}

func TestExponentsAddUp(t *testing.T) {
	few := []int{math.MinInt / 2, -1 << 40, -511, -255, -254, -1, 0, 1, 2, 3, 127, 254, 255, 256, 1 << 40, math.MaxInt / 2}
	each(func(a byte) {
		for _, n := range few {
			for _, m := range few {
				if a == 0 && (n < 0 || m < 0) {
					continue
				}
				p, _ := gf.Pow(a, n)
				q, _ := gf.Pow(a, m)
				both, err := gf.Pow(a, n+m)
				if err != api.OK || gf.Mul(p, q) != both {
					t.Fatalf("%d to %d and to %d: %d", a, n, m, err)
				}
			}
		}
	})
}

func TestLogIsItsPowers(t *testing.T) {
	for a := 1; a < 256; a++ {
		n, err := gf.Log(byte(a))
		if err != api.OK || n < 0 || n > 254 {
			t.Fatalf("Log(%d) = %d, %d", a, n, err)
		}
		p, err := gf.Pow(2, n)
		wantByte(t, "the power of a log", p, err, byte(a), api.OK)
	}
	for n := range 255 {
		p, _ := gf.Pow(2, n)
		if got, err := gf.Log(p); got != n || err != api.OK {
			t.Fatalf("the log of 2 to %d is %d, %d", n, got, err)
		}
	}
}
