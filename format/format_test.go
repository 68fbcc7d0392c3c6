package format_test

import (
	"bytes"
	"crypto/sha256"
	"fmt"
	"math"
	"math/rand"
	"slices"
	"testing"

	"stowage/api"
	"stowage/format"
)

const (
	maxDrives = 16
	maxSets   = 4
	headLen   = 8
	size      = 40
)

// numbers is a format's, in the order in which the chapter names them.
type numbers [5]int

func of(n numbers) api.Format {
	return api.Format{K: n[0], M: n[1], Sets: n[2], Set: n[3], Drive: n[4]}
}

// shapes are all k, m and sets of which there are formats, told by counting.
func shapes() [][3]int {
	var all [][3]int
	for k := 1; k < maxDrives; k++ {
		for m := 1; k+m <= maxDrives; m++ {
			for sets := 1; sets <= maxSets; sets++ {
				all = append(all, [3]int{k, m, sets})
			}
		}
	}
	return all
}

// formats are those of k, m and sets, set by set, drive by drive.
func formats(k, m, sets int) []numbers {
	var all []numbers
	for at := range sets * (k + m) {
		all = append(all, numbers{k, m, sets, at / (k + m), at % (k + m)})
	}
	return all
}

// everyFormat are all that may be.
func everyFormat() []numbers {
	var all []numbers
	for _, s := range shapes() {
		all = append(all, formats(s[0], s[1], s[2])...)
	}
	return all
}

// known tells of each format that may be that it does.
func known() map[numbers]bool {
	all := map[numbers]bool{}
	for _, n := range everyFormat() {
		all[n] = true
	}
	return all
}

// signed are bytes with their digest behind them.
func signed(head []byte) []byte {
	d := sha256.Sum256(head)
	return slices.Concat(head, d[:])
}

// written are the bytes of numbers of a byte each, whether such a format may be or not.
func written(n numbers) []byte {
	head := []byte("SF1")
	for _, v := range n {
		head = append(head, byte(v))
	}
	return signed(head)
}

// greatNumbers are far from those that may be; cut to a byte, or to 32 bits, some of them are not.
func greatNumbers() []int {
	return []int{
		math.MinInt, math.MinInt + 1, math.MinInt + 2, math.MinInt + 15, math.MinInt / 2, -1 << 40, -1<<32 + 1, math.MinInt32, -1 << 16, -257, -256, -255, -254, -128, -16,
		64, 127, 128, 129, 254, 255, 256, 257, 258, 260, 272, 1 << 16, 1<<16 + 1, math.MaxInt32, 1 << 32, 1<<32 + 1, 1<<32 + 2, 1 << 62, math.MaxInt - 15, math.MaxInt - 1, math.MaxInt,
	}
}

// someFormats are of the least and the greatest numbers, and of some between.
func someFormats() []numbers {
	return []numbers{
		{1, 1, 1, 0, 0}, {1, 1, 1, 0, 1}, {2, 1, 2, 1, 2}, {1, 2, 2, 0, 1}, {3, 5, 3, 2, 4}, {15, 1, 1, 0, 15}, {1, 15, 1, 0, 15},
		{1, 15, 4, 3, 0}, {8, 8, 4, 0, 15}, {8, 8, 4, 3, 15}, {15, 1, 4, 3, 15}, {7, 8, 4, 3, 14},
	}
}

// badFormats are such as may not be: each number one too small, one too great, below 0, far too great, and two of them at once.
func badFormats() []numbers {
	var all []numbers
	may := known()
	for _, n := range someFormats() {
		for i := range n {
			for _, v := range append(greatNumbers(), -2, -1, 0, 1, 2, 3, 4, 5, 14, 15, 16, 17, 18) {
				bad := n
				bad[i] = v
				if !may[bad] {
					all = append(all, bad)
				}
			}
		}
	}
	return append(all, numbers{}, numbers{1, 1, 1, 1, 2}, numbers{0, 0, 0, 0, 0}, numbers{-1, -1, -1, -1, -1})
}

func wantCheck(t *testing.T, n numbers, wanted api.Errno) {
	t.Helper()
	if err := format.Check(of(n)); err != wanted {
		t.Errorf("Check(%v): %d; want %d", n, err, wanted)
	}
}

func wantBytes(t *testing.T, n numbers, wanted []byte, wantedErr api.Errno) {
	t.Helper()
	if b, err := format.Bytes(of(n)); !bytes.Equal(b, wanted) || err != wantedErr {
		t.Errorf("Bytes(%v): %v, %d; want %v, %d", n, b, err, wanted, wantedErr)
	}
}

func wantRead(t *testing.T, what string, b []byte, wanted numbers, wantedErr api.Errno) {
	t.Helper()
	if f, err := format.Read(b); f != of(wanted) || err != wantedErr {
		t.Errorf("%s: Read(%v): %v, %d; want %v, %d", what, b, f, err, wanted, wantedErr)
	}
}

// wantMay and wantMayNot hold Check and Bytes, and Read of what is written, to one word.
func wantMay(t *testing.T, n numbers) {
	t.Helper()
	wantCheck(t, n, api.OK)
	wantBytes(t, n, written(n), api.OK)
	wantRead(t, "written", written(n), n, api.OK)
}

func wantMayNot(t *testing.T, n numbers) {
	t.Helper()
	wantCheck(t, n, api.ErrArg)
	wantBytes(t, n, nil, api.ErrArg)
}

// modelRead tells what the chapter says, held against the list of all formats.
func modelRead(b []byte, may map[numbers]bool) (numbers, api.Errno) {
	if len(b) != size || string(b[:3]) != "SF1" {
		return numbers{}, api.ErrBytes
	}
	if !bytes.Equal(signed(b[:headLen]), b) {
		return numbers{}, api.ErrDigest
	}
	var n numbers
	for i := range n {
		n[i] = int(b[3+i])
	}
	if !may[n] {
		return numbers{}, api.ErrBytes
	}
	return n, api.OK
}

// P14.1

// TestExamplesOfBytes: those of the chapter.
func TestExamplesOfBytes(t *testing.T) {
	l, err := format.All(2, 1, 2)
	last := numbers{2, 1, 2, 1, 2}
	if len(l) != 6 || l[5] != of(last) || err != api.OK {
		t.Fatalf("All(2, 1, 2): %v, %d", l, err)
	}
	b, err := format.Bytes(l[5])
	if len(b) != 40 || err != api.OK {
		t.Fatalf("Bytes: %d of them, %d", len(b), err)
	}
	wantRead(t, "as it is", b, last, api.OK)
	wantRead(t, "39 of them", b[:39], numbers{}, api.ErrBytes)
	b[7] ^= 1
	wantRead(t, "turned", b, numbers{}, api.ErrDigest)
}

// TestKnownBytes: those of one format, as another program has told them.
func TestKnownBytes(t *testing.T) {
	wantBytes(t, numbers{2, 1, 2, 1, 2}, []byte{
		'S', 'F', '1', 2, 1, 2, 1, 2,
		0x6f, 0x21, 0x97, 0x76, 0x67, 0x66, 0x56, 0x25, 0x55, 0x55, 0x86, 0x14, 0x3f, 0x13, 0x0e, 0x42,
		0x47, 0x89, 0x86, 0x80, 0x8a, 0x66, 0x0c, 0x78, 0xf7, 0x16, 0xc1, 0x1b, 0x19, 0x3b, 0xd1, 0xf2,
	}, api.OK)
}

// TestEachNumber: each one at its least and its greatest, one below and one above.
func TestEachNumber(t *testing.T) {
	for _, n := range []numbers{
		{1, 1, 1, 0, 0}, {15, 1, 1, 0, 0}, {1, 15, 1, 0, 0}, {1, 1, 4, 0, 0}, {1, 1, 4, 3, 0}, {1, 1, 1, 0, 1}, {15, 1, 1, 0, 15}, {1, 15, 1, 0, 15},
		{8, 8, 4, 3, 15}, {7, 8, 4, 3, 14}, {8, 7, 4, 3, 14}, {2, 3, 2, 1, 4}, {2, 3, 3, 2, 4},
	} {
		wantMay(t, n)
	}
	for _, n := range []numbers{
		{0, 1, 1, 0, 0}, {1, 0, 1, 0, 0}, {1, 1, 0, 0, 0}, {1, 1, 1, -1, 0}, {1, 1, 1, 0, -1}, {-1, 1, 1, 0, 0}, {1, -1, 1, 0, 0}, {1, 1, -1, 0, 0},
		{0, 16, 1, 0, 0}, {16, 0, 1, 0, 0}, {-1, 17, 1, 0, 0}, {17, -1, 1, 0, 0}, {0, 0, 1, 0, 0},
		{1, 1, 5, 0, 0}, {1, 1, 5, 4, 0}, {1, 1, 1, 1, 0}, {1, 1, 4, 4, 0}, {2, 3, 2, 2, 0}, {1, 1, 1, 0, 2}, {15, 1, 1, 0, 16}, {1, 15, 1, 0, 16}, {2, 3, 2, 1, 5},
		{16, 1, 1, 0, 0}, {1, 16, 1, 0, 0}, {8, 9, 1, 0, 0}, {9, 8, 1, 0, 0}, {16, 16, 1, 0, 0},
	} {
		wantMayNot(t, n)
	}
}

// TestTogether: K and M at 16 together, and at 17, with Drive at the last one, and behind it.
func TestTogether(t *testing.T) {
	for k := 1; k <= 15; k++ {
		wantMay(t, numbers{k, 16 - k, 4, 3, 15})
		wantMayNot(t, numbers{k, 16 - k, 4, 3, 16})
		wantMayNot(t, numbers{k, 17 - k, 4, 3, 15})
		wantMayNot(t, numbers{k, 17 - k, 4, 3, 16})
		wantMayNot(t, numbers{17 - k, k, 1, 0, 0})
	}
}

// TestSumsThatOverflow: K and M that are too great, but whose sum, as it is cut, is not.
func TestSumsThatOverflow(t *testing.T) {
	l := append(greatNumbers(), -1, 0, 1, 2, 8, 15)
	for _, k := range l {
		for _, m := range l {
			if 1 <= k && k <= 15 && 1 <= m && m <= 15 {
				continue
			}
			for _, drive := range []int{0, 1, 15, k + m - 1, math.MaxInt, math.MinInt} {
				wantMayNot(t, numbers{k, m, 1, 0, drive})
				wantMayNot(t, numbers{k, m, 4, 3, drive})
			}
		}
	}
	// Sets less 1 is the greatest number, if Sets is the least.
	for _, sets := range []int{math.MinInt, math.MinInt + 1, -1, 0} {
		for _, set := range []int{sets, sets - 1, 0, -1, math.MaxInt, math.MinInt} {
			wantMayNot(t, numbers{1, 1, sets, set, 0})
		}
	}
}

// TestAllThatMayBe: every format there is, each of them of 40 bytes that no other one has.
func TestAllThatMayBe(t *testing.T) {
	whose := map[string]numbers{}
	for _, n := range everyFormat() {
		wantMay(t, n)
		b, _ := format.Bytes(of(n))
		if other, is := whose[string(b)]; is || len(b) != size {
			t.Errorf("the %d bytes of %v are those of %v", len(b), n, other)
		}
		whose[string(b)] = n
		if f, err := format.Read(b); f != of(n) || err != api.OK {
			t.Errorf("Read of Bytes(%v): %v, %d", n, f, err)
		}
	}
	if len(whose) != 13600 {
		t.Errorf("%d formats", len(whose))
	}
}

// TestBytesByPlace: each byte where it stands.
func TestBytesByPlace(t *testing.T) {
	for _, n := range append(someFormats(), numbers{3, 5, 4, 2, 6}, numbers{6, 3, 4, 2, 5}) {
		b, err := format.Bytes(of(n))
		if len(b) != size || err != api.OK {
			t.Fatalf("Bytes(%v): %d of them, %d", n, len(b), err)
		}
		if b[0] != 'S' || b[1] != 'F' || b[2] != '1' {
			t.Errorf("Bytes(%v) begins with %q", n, b[:3])
		}
		if int(b[3]) != n[0] || int(b[4]) != n[1] || int(b[5]) != n[2] || int(b[6]) != n[3] || int(b[7]) != n[4] {
			t.Errorf("Bytes(%v) has the numbers %v", n, b[3:8])
		}
		if d := sha256.Sum256(b[:8]); !bytes.Equal(b[8:], d[:]) {
			t.Errorf("Bytes(%v) has the digest %x", n, b[8:])
		}
	}
}

// TestAllAround: every choice of numbers around those that may be.
func TestAllAround(t *testing.T) {
	may := known()
	for k := -1; k <= 17; k++ {
		for m := -1; m <= 17; m++ {
			for sets := -1; sets <= 5; sets++ {
				for set := -1; set <= 5; set++ {
					for drive := -1; drive <= 17; drive++ {
						n := numbers{k, m, sets, set, drive}
						wanted := api.ErrArg
						if may[n] {
							wanted = api.OK
						}
						wantCheck(t, n, wanted)
					}
				}
			}
		}
	}
}

// TestWhatMayNotBe: neither is written, also where its numbers, cut to a byte, are those of one that may be.
func TestWhatMayNotBe(t *testing.T) {
	for _, n := range badFormats() {
		wantMayNot(t, n)
	}
}

// TestReadLengths: of no other number of bytes, whatever they begin with, and whether their last 32 are a digest.
func TestReadLengths(t *testing.T) {
	whole := written(numbers{2, 1, 2, 1, 2})
	for n := range 300 {
		if n == size {
			continue
		}
		wantRead(t, "noughts", make([]byte, n), numbers{}, api.ErrBytes)
		b := slices.Concat(whole, make([]byte, 300))[:n]
		wantRead(t, "cut off, or with more behind it", b, numbers{}, api.ErrBytes)
		if n >= 32 {
			wantRead(t, "of its own digest", signed(b[:n-32]), numbers{}, api.ErrBytes)
		}
	}
	wantRead(t, "none", nil, numbers{}, api.ErrBytes)
	wantRead(t, "without the first one", whole[1:], numbers{}, api.ErrBytes)
	wantRead(t, "with one ahead", append([]byte{'S'}, whole...), numbers{}, api.ErrBytes)
	wantRead(t, "twice", slices.Concat(whole, whole), numbers{}, api.ErrBytes)
}

// TestReadBeginnings: bytes that begin otherwise are refused with ErrBytes, with the right digest and with a wrong one.
func TestReadBeginnings(t *testing.T) {
	for _, sign := range []string{"SF0", "SF2", "sf1", "Sf1", "sF1", "SJ1", "FS1", "1FS", "SF\x01", "SF ", " SF", "SF", "SS1", "\x00\x00\x00", "\xff\xff\xff", "S1F"} {
		for _, n := range someFormats() {
			b := written(n)
			copy(b, sign)
			if string(b[:3]) == "SF1" {
				b[2] = 0
			}
			wantRead(t, "wrong digest", b, numbers{}, api.ErrBytes)
			wantRead(t, "right digest", signed(b[:headLen]), numbers{}, api.ErrBytes)
		}
	}
	wantRead(t, "40 noughts", make([]byte, size), numbers{}, api.ErrBytes)
	wantRead(t, "noughts with their digest", signed(make([]byte, headLen)), numbers{}, api.ErrBytes)
	wantRead(t, "all set", bytes.Repeat([]byte{255}, size), numbers{}, api.ErrBytes)
	wantRead(t, "the sign and noughts", append([]byte("SF1"), make([]byte, size-3)...), numbers{}, api.ErrDigest)
	wantRead(t, "the sign alone", []byte("SF1"), numbers{}, api.ErrBytes)
}

// TestReadOfNone: the digest is right, but the format may not be.
func TestReadOfNone(t *testing.T) {
	for _, n := range []numbers{
		{}, {0, 1, 1, 0, 0}, {1, 0, 1, 0, 0}, {1, 1, 0, 0, 0}, {1, 1, 1, 1, 0}, {1, 1, 1, 0, 2}, {1, 1, 5, 0, 0}, {8, 9, 1, 0, 0}, {16, 1, 1, 0, 0}, {2, 1, 2, 2, 2}, {2, 1, 2, 1, 3},
		{255, 1, 1, 0, 0}, {1, 255, 1, 0, 0}, {1, 1, 255, 0, 0}, {1, 1, 1, 255, 0}, {1, 1, 1, 0, 255}, {255, 255, 255, 255, 255}, {128, 128, 1, 0, 0}, {129, 129, 4, 0, 0}, {'1', '1', '1', '0', '0'},
	} {
		wantRead(t, "right digest", written(n), numbers{}, api.ErrBytes)
	}
	may := known()
	for _, n := range someFormats() {
		for i := range n {
			for v := range 256 {
				other := n
				other[i] = v
				wanted, err := modelRead(written(other), may)
				wantRead(t, "one number is another one", written(other), wanted, err)
			}
		}
	}
}

// TestReadOfAllAround: of bytes with every choice of numbers around those that may be.
func TestReadOfAllAround(t *testing.T) {
	may := known()
	r := rand.New(rand.NewSource(141))
	for range 60000 {
		n := numbers{r.Intn(18), r.Intn(18), r.Intn(6), r.Intn(6), r.Intn(18)}
		b := written(n)
		wanted, err := modelRead(b, may)
		wantRead(t, "drawn", b, wanted, err)
	}
}

// TestOrderOfErrors: the length and the beginning ahead of the digest, that ahead of what the numbers are.
func TestOrderOfErrors(t *testing.T) {
	for _, n := range append(badFormats(), numbers{2, 1, 2, 1, 2}) {
		b := written(n)
		b[size-1] ^= 1
		wantRead(t, "a wrong digest", b, numbers{}, api.ErrDigest)
		wantRead(t, "too short, a wrong digest", b[:size-1], numbers{}, api.ErrBytes)
		wantRead(t, "too long, a wrong digest", append(bytes.Clone(b), 0), numbers{}, api.ErrBytes)
		b[0] = 's'
		wantRead(t, "a wrong beginning, a wrong digest", b, numbers{}, api.ErrBytes)
	}
}

// TestReadDrawn: bytes of all kinds hold against the model.
func TestReadDrawn(t *testing.T) {
	may := known()
	r := rand.New(rand.NewSource(142))
	for range 20000 {
		b := written(someFormats()[r.Intn(len(someFormats()))])
		for range r.Intn(3) {
			b[r.Intn(len(b))] ^= byte(1 + r.Intn(255))
		}
		if r.Intn(3) == 0 {
			b = signed(b[:headLen])
		}
		if r.Intn(6) == 0 {
			b = b[:r.Intn(size)]
		}
		wanted, err := modelRead(b, may)
		wantRead(t, "drawn", b, wanted, err)
	}
}

// P14.3

// TestEachByteTurned: to each other byte: none is read, and ahead of the numbers it is the beginning that is wrong.
func TestEachByteTurned(t *testing.T) {
	for _, n := range someFormats() {
		for at := range size {
			wanted := api.ErrDigest
			if at < 3 {
				wanted = api.ErrBytes
			}
			for by := 1; by < 256; by++ {
				b, _ := format.Bytes(of(n))
				b[at] ^= byte(by)
				wantRead(t, fmt.Sprintf("byte %d of %v is turned", at, n), b, numbers{}, wanted)
			}
		}
	}
}

// TestTwoBytesExchanged: of unlike ones: neither is that read.
func TestTwoBytesExchanged(t *testing.T) {
	for _, n := range someFormats() {
		whole, _ := format.Bytes(of(n))
		for i := range size {
			for j := range i {
				b := bytes.Clone(whole)
				b[i], b[j] = b[j], b[i]
				if f, err := format.Read(b); !bytes.Equal(b, whole) && (f != api.Format{} || err == api.OK) {
					t.Errorf("bytes %d and %d of %v are exchanged: %v, %d", i, j, n, f, err)
				}
			}
		}
	}
}

// TestOtherDigests: the numbers of one format with the digest of another one.
func TestOtherDigests(t *testing.T) {
	for _, n := range someFormats() {
		for _, other := range someFormats() {
			if n != other {
				b := slices.Concat(written(n)[:headLen], written(other)[headLen:])
				wantRead(t, "another one's digest", b, numbers{}, api.ErrDigest)
			}
		}
	}
}
