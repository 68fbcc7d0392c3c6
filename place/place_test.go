package place_test

import (
	"crypto/sha256"
	"encoding/hex"
	"fmt"
	"math"
	"math/big"
	"math/rand"
	"strconv"
	"strings"
	"testing"

	"stowage/api"
	"stowage/place"
)

const (
	maxPath  = 400
	maxSets  = 4
	maxPaths = 10000
)

// numberOf is the number of a path as the chapter has it: what the first 16 digits of its digest say.
func numberOf(path string) uint64 {
	d := sha256.Sum256([]byte(path))
	n, err := strconv.ParseUint(hex.EncodeToString(d[:])[:16], 16, 64)
	if err != nil {
		panic(err)
	}
	return n
}

// setOf is the set of a path, told by numbers that have no greatest one.
func setOf(path string, sets int) int {
	n := new(big.Int).SetUint64(numberOf(path))
	return int(n.Mod(n, big.NewInt(int64(sets))).Int64())
}

// pathMayBe and setsMayBe tell what may be handed in.
func pathMayBe(path string) bool { return 1 <= len(path) && len(path) <= maxPath }
func setsMayBe(sets int) bool    { return 1 <= sets && sets <= maxSets }

// modelHash and modelSet tell what the document says.
func modelHash(path string) (uint64, api.Errno) {
	if !pathMayBe(path) {
		return 0, api.ErrArg
	}
	return numberOf(path), api.OK
}

func modelSet(path string, sets int) (int, api.Errno) {
	if !pathMayBe(path) || !setsMayBe(sets) {
		return 0, api.ErrArg
	}
	return setOf(path, sets), api.OK
}

// shown is a text, cut where it is long.
func shown(s string) string {
	if len(s) > 40 {
		return fmt.Sprintf("%q.. (%d bytes)", s[:40], len(s))
	}
	return strconv.Quote(s)
}

func wantHash(t *testing.T, path string, wanted uint64, wantedErr api.Errno) {
	t.Helper()
	if n, err := place.Hash(path); n != wanted || err != wantedErr {
		t.Errorf("Hash(%s): %x, %d; want %x, %d", shown(path), n, err, wanted, wantedErr)
	}
}

func wantSet(t *testing.T, path string, sets, wanted int, wantedErr api.Errno) {
	t.Helper()
	if n, err := place.Set(path, sets); n != wanted || err != wantedErr {
		t.Errorf("Set(%s, %d): %d, %d; want %d, %d", shown(path), sets, n, err, wanted, wantedErr)
	}
}

// ask asks Hash and Set of a path with all numbers of sets, and holds the answers against the model.
func ask(t *testing.T, path string) {
	t.Helper()
	wanted, err := modelHash(path)
	wantHash(t, path, wanted, err)
	for _, sets := range setNumbers() {
		n, err := modelSet(path, sets)
		wantSet(t, path, sets, n, err)
	}
}

// setNumbers are those that may be, those around them, the least and the greatest, and such as are cut to one that may be.
func setNumbers() []int {
	return []int{
		math.MinInt, math.MinInt + 1, math.MinInt + 2, math.MinInt32, -1 << 40, -256, -5, -4, -3, -2, -1,
		0, 1, 2, 3, 4, 5, 6, 7, 8, 16, 255, 256, 257, 258, 1 << 16, 1<<16 + 1, math.MaxInt32,
		1 << 32, 1<<32 + 1, 1<<32 + 2, 1<<32 + 3, 1<<32 + 4, math.MaxInt - 1, math.MaxInt,
	}
}

// drawnText is a text of any bytes.
func drawnText(r *rand.Rand, size int) string {
	b := make([]byte, size)
	r.Read(b)
	return string(b)
}

// found is the first of the texts t0, t1 and so on of which something holds.
func found(holds func(string) bool) string {
	for i := 0; ; i++ {
		if s := "t" + strconv.Itoa(i); holds(s) {
			return s
		}
	}
}

// digestByte is a byte of a text's digest.
func digestByte(s string, at int) byte {
	d := sha256.Sum256([]byte(s))
	return d[at]
}

// P13.1

// TestExamples: those of the chapter.
func TestExamples(t *testing.T) {
	wantHash(t, "abc", 0xba7816bf8f01cfea, api.OK)
	for i, wanted := range []int{0, 0, 0, 2} {
		wantSet(t, "abc", i+1, wanted, api.OK)
	}
	wantSet(t, "", 2, 0, api.ErrArg)
	wantSet(t, "abc", 5, 0, api.ErrArg)
	wantMerge(t, [][]string{{"a", "c"}, {"b", "c"}, {}}, []string{"a", "b", "c"})
	wantMerge(t, [][]string{{"a", "c"}, {"b", "c"}, nil}, []string{"a", "b", "c"})
}

// TestKnown: numbers of digests that another program has told, and what is left of them by 1 to 4.
func TestKnown(t *testing.T) {
	for _, c := range []struct {
		path   string
		number uint64
		sets   [maxSets]int
	}{
		{"a", 0xca978112ca1bbdca, [maxSets]int{0, 0, 1, 2}},
		{"b", 0x3e23e8160039594a, [maxSets]int{0, 0, 1, 2}},
		{"c", 0x2e7d2c03a9507ae2, [maxSets]int{0, 0, 2, 2}},
		{"d", 0x18ac3e7343f01689, [maxSets]int{0, 1, 2, 1}},
		{"e", 0x3f79bb7b435b0532, [maxSets]int{0, 0, 2, 2}},
		{"f", 0x252f10c83610ebca, [maxSets]int{0, 0, 0, 2}},
		{"logs/a", 0x5883afd0ab83f1b1, [maxSets]int{0, 1, 2, 1}},
		{"logs/b", 0xc6a71bfac6bc4312, [maxSets]int{0, 0, 0, 2}},
		{"logs/c", 0x9abb91fbc91673c2, [maxSets]int{0, 0, 0, 2}},
	} {
		wantHash(t, c.path, c.number, api.OK)
		for i, wanted := range c.sets {
			wantSet(t, c.path, i+1, wanted, api.OK)
		}
	}
}

// TestLengths: paths of any length, up to some bytes more than one may have and far beyond.
func TestLengths(t *testing.T) {
	for size := range maxPath + 30 {
		for _, c := range []string{"a", "/", "\x00", "\xff"} {
			ask(t, strings.Repeat(c, size))
		}
	}
	for _, size := range []int{511, 512, 513, 656, 1 << 10, 1<<16 - 1, 1 << 16, 1<<16 + 1, 1<<16 + 400, 1 << 20} {
		wantHash(t, strings.Repeat("a", size), 0, api.ErrArg)
		for _, sets := range setNumbers() {
			wantSet(t, strings.Repeat("a", size), sets, 0, api.ErrArg)
		}
	}
}

// TestEdges: the lengths that the chapter names.
func TestEdges(t *testing.T) {
	wantHash(t, "", 0, api.ErrArg)
	wantHash(t, strings.Repeat("a", 401), 0, api.ErrArg)
	for _, size := range []int{1, 2, 399, 400} {
		path := strings.Repeat("a", size)
		wantHash(t, path, numberOf(path), api.OK)
		for sets := 1; sets <= maxSets; sets++ {
			wantSet(t, path, sets, setOf(path, sets), api.OK)
		}
	}
}

// TestBytesAreCounted: not runes, and not up to a nought.
func TestBytesAreCounted(t *testing.T) {
	for _, c := range []struct {
		path string
		err  api.Errno
	}{
		{strings.Repeat("\u00e9", 200), api.OK},
		{strings.Repeat("\u00e9", 200) + "a", api.ErrArg},
		{strings.Repeat("\u00e9", 201), api.ErrArg},
		{strings.Repeat("\u20ac", 133), api.OK},
		{strings.Repeat("\u20ac", 134), api.ErrArg},
		{strings.Repeat("\U0001f600", 100), api.OK},
		{strings.Repeat("\U0001f600", 101), api.ErrArg},
		{"\x00", api.OK},
		{"\x00a", api.OK},
		{strings.Repeat("\x00", 401), api.ErrArg},
		{" ", api.OK},
		{" a ", api.OK},
	} {
		if _, err := place.Hash(c.path); err != c.err {
			t.Errorf("Hash(%s): %d; want %d", shown(c.path), err, c.err)
		}
		ask(t, c.path)
	}
}

// TestEachByte: paths with each byte from 0 to 255, alone, between others, and all of them.
func TestEachByte(t *testing.T) {
	var all []byte
	for c := range 256 {
		one := string([]byte{byte(c)})
		all = append(all, byte(c))
		for _, path := range []string{one, "a" + one, one + "a", "a" + one + "b", one + one, strings.Repeat(one, 400), strings.Repeat(one, 401)} {
			ask(t, path)
		}
	}
	ask(t, string(all))
}

// TestEachByteOfANumber: texts whose digest has great and small bytes at each of the first eight places, and at those behind.
func TestEachByteOfANumber(t *testing.T) {
	for at := range 12 {
		for _, c := range []byte{0, 1, 127, 128, 129, 254, 255} {
			path := found(func(s string) bool { return digestByte(s, at) == c })
			ask(t, path)
			if at >= 8 {
				continue
			}
			n, err := place.Hash(path)
			if got := byte(n >> (56 - 8*at)); got != c || err != api.OK {
				t.Errorf("Hash(%s): byte %d is %d, %d; want %d", path, at, got, err, c)
			}
		}
	}
}

// TestGreatAndSmallNumbers: the digests open with the greatest and with the least bytes, two at a time.
func TestGreatAndSmallNumbers(t *testing.T) {
	great := found(func(s string) bool { return digestByte(s, 0) == 255 && digestByte(s, 1) == 255 })
	small := found(func(s string) bool { return digestByte(s, 0) == 0 && digestByte(s, 1) == 0 })
	ask(t, great)
	ask(t, small)
	if n, err := place.Hash(great); n < 0xffff<<48 || err != api.OK {
		t.Errorf("Hash(%s): %x, %d", great, n, err)
	}
	if n, err := place.Hash(small); n >= 1<<48 || n == 0 || err != api.OK {
		t.Errorf("Hash(%s): %x, %d", small, n, err)
	}
}

// TestNumbersOfMoreThan63Bits: of 2^63 and more another set is told than by numbers with a sign, or by a part of the bytes.
func TestNumbersOfMoreThan63Bits(t *testing.T) {
	for sets := 1; sets <= maxSets; sets++ {
		for wanted := range sets {
			path := found(func(s string) bool { return numberOf(s) >= 1<<63 && setOf(s, sets) == wanted })
			wantSet(t, path, sets, wanted, api.OK)
		}
	}
	// By 3 what is left with a sign, or of the lowest 63, 53 or 32 bits, is another number.
	for _, other := range []func(n uint64) int{
		func(n uint64) int { return int(int64(n) % 3) },
		func(n uint64) int { return int(n << 1 >> 1 % 3) },
		func(n uint64) int { return int(n & (1<<53 - 1) % 3) },
		func(n uint64) int { return int(uint32(n) % 3) },
		func(n uint64) int { return int(n >> 32 % 3) },
	} {
		path := found(func(s string) bool { return numberOf(s) >= 1<<63 && setOf(s, 3) != other(numberOf(s)) })
		wantSet(t, path, 3, setOf(path, 3), api.OK)
	}
}

// TestBothWrong: a path and a number of sets that may not be.
func TestBothWrong(t *testing.T) {
	for _, path := range []string{"", strings.Repeat("a", 401), strings.Repeat("\xff", 1000)} {
		for _, sets := range setNumbers() {
			wantSet(t, path, sets, 0, api.ErrArg)
		}
	}
	for _, sets := range []int{0, 5, -1, math.MinInt, math.MaxInt} {
		wantSet(t, "abc", sets, 0, api.ErrArg)
	}
}

// TestDrawnPaths: Hash and Set hold against the model, and tell the same once more.
func TestDrawnPaths(t *testing.T) {
	r := rand.New(rand.NewSource(131))
	for range 3000 {
		path := drawnText(r, r.Intn(maxPath+20))
		ask(t, path)
		ask(t, path)
	}
}
