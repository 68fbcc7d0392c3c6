package block_test

import (
	"bytes"
	"crypto/sha256"
	"fmt"
	"math"
	"math/rand"
	"slices"
	"testing"

	"stowage/api"
	"stowage/block"
)

const (
	blockLen  = 256
	digestLen = 32
	stride    = digestLen + blockLen
	most      = 65536
)

// wrongSizes are those that no bytes may have.
var wrongSizes = []int{-1, -2, -256, -257, -65536, most + 1, most + 2, 2 * most, 1 << 31, 1 << 32, 1<<32 + 3,
	math.MinInt32, math.MinInt, math.MinInt + 1, math.MaxInt32, math.MaxInt, math.MaxInt - 1, math.MaxInt - 255}

// edges are lengths around whole numbers of blocks, up to the greatest one.
var edges = []int{0, 1, 2, 3, 31, 32, 33, 100, 255, 256, 257, 288, 511, 512, 513, 600, 767, 768, 769, 4095, 4096, 4097,
	65279, 65280, 65281, 65535, 65536}

func drawn(r *rand.Rand, size int) []byte {
	b := make([]byte, size)
	r.Read(b)
	return b
}

// fileOf is the file of bytes as the document says it.
func fileOf(b []byte) []byte {
	var file []byte
	for len(b) > 0 {
		first := b[:min(blockLen, len(b))]
		d := sha256.Sum256(first)
		file = append(append(file, d[:]...), first...)
		b = b[len(first):]
	}
	return file
}

// sizeOf counts the bytes of a file block by block.
func sizeOf(n int) int {
	size := 0
	for left := n; left > 0; left -= blockLen {
		size += digestLen + min(blockLen, left)
	}
	return size
}

// badOf tells which blocks are not sound as the document says it, taking them from the front of the file.
func badOf(file []byte, n int) []int {
	var bad []int
	for i, left := 0, n; left > 0; i, left = i+1, left-blockLen {
		length := min(blockLen, left)
		if len(file) < digestLen+length {
			bad = append(bad, i)
			file = nil
			continue
		}
		text := file[digestLen : digestLen+length]
		if left <= blockLen {
			text = file[digestLen:]
		}
		if sha256.Sum256(text) != [digestLen]byte(file[:digestLen]) {
			bad = append(bad, i)
		}
		file = file[digestLen+length:]
	}
	return bad
}

// partOf is what Part answers as the document says it, byte by byte.
func partOf(file []byte, n, from, to int) ([]byte, api.Errno) {
	if n < 0 || n > most || from < 0 || to < from || to > n {
		return nil, api.ErrRange
	}
	if len(file) != sizeOf(n) {
		return nil, api.ErrBytes
	}
	bad := badOf(file, n)
	var part []byte
	for i := from; i < to; i++ {
		if slices.Contains(bad, i/blockLen) {
			return nil, api.ErrDigest
		}
		part = append(part, file[i/blockLen*stride+digestLen+i%blockLen])
	}
	return part, api.OK
}

// turned is a file of which bits of some bytes are turned.
func turned(file []byte, mask byte, places ...int) []byte {
	other := slices.Clone(file)
	for _, place := range places {
		other[place] ^= mask
	}
	return other
}

func wantSize(t *testing.T, n, size int, err api.Errno, wanted int, wantedErr api.Errno) {
	t.Helper()
	if size != wanted || err != wantedErr {
		t.Errorf("Size(%d): %d, %d; want %d, %d", n, size, err, wanted, wantedErr)
	}
}

func wantBytes(t *testing.T, what string, b []byte, err api.Errno, wanted []byte, wantedErr api.Errno) {
	t.Helper()
	if !bytes.Equal(b, wanted) || err != wantedErr {
		t.Errorf("%s: %d bytes, %x, %d; want %d bytes, %x, %d", what, len(b), b, err, len(wanted), wanted, wantedErr)
	}
}

func wantBad(t *testing.T, what string, bad []int, err api.Errno, wanted []int, wantedErr api.Errno) {
	t.Helper()
	if !slices.Equal(bad, wanted) || err != wantedErr {
		t.Errorf("%s: %v, %d; want %v, %d", what, bad, err, wanted, wantedErr)
	}
}

// P5.1

func TestSizeKnown(t *testing.T) {
	for n, wanted := range map[int]int{0: 0, 1: 33, 2: 34, 255: 287, 256: 288, 257: 321, 511: 575, 512: 576, 513: 609,
		65280: 73440, 65281: 73473, 65535: 73727, 65536: 73728} {
		size, err := block.Size(n)
		wantSize(t, n, size, err, wanted, api.OK)
	}
}

func TestSizeOfEachNumber(t *testing.T) {
	for n := range most + 1 {
		size, err := block.Size(n)
		wantSize(t, n, size, err, sizeOf(n), api.OK)
	}
}

func TestSizeOfWrongNumbers(t *testing.T) {
	for _, n := range wrongSizes {
		size, err := block.Size(n)
		wantSize(t, n, size, err, 0, api.ErrRange)
	}
}

// abcFile is that of the document's example, its digest as others have told it.
func abcFile() []byte {
	return []byte("\xba\x78\x16\xbf\x8f\x01\xcf\xea\x41\x41\x40\xde\x5d\xae\x22\x23" +
		"\xb0\x03\x61\xa3\x96\x17\x7a\x9c\xb4\x10\xff\x61\xf2\x00\x15\xadabc")
}

func TestLayKnown(t *testing.T) {
	file, err := block.Lay(nil)
	wantBytes(t, "nil", file, err, nil, api.OK)
	file, err = block.Lay([]byte{})
	wantBytes(t, "none", file, err, nil, api.OK)
	file, err = block.Lay([]byte("abc"))
	wantBytes(t, "abc", file, err, abcFile(), api.OK)
}

// TestLay: each length up to some blocks, and those around each whole number of blocks up to the greatest one.
func TestLay(t *testing.T) {
	r := rand.New(rand.NewSource(1))
	var lengths []int
	for n := range 1100 {
		lengths = append(lengths, n)
	}
	for n := 4 * blockLen; n < most; n += blockLen {
		lengths = append(lengths, n-1, n, n+1)
	}
	lengths = append(lengths, most-1, most)
	for _, n := range lengths {
		b := drawn(r, n)
		file, err := block.Lay(b)
		wantBytes(t, fmt.Sprint(n, " bytes"), file, err, fileOf(b), api.OK)
		size, _ := block.Size(n)
		if len(file) != size {
			t.Errorf("%d bytes: a file of %d, but the size is %d", n, len(file), size)
		}
	}
}

// TestLayOfLike: blocks that are like each other, of noughts among them, have one digest each.
func TestLayOfLike(t *testing.T) {
	for _, n := range edges {
		for _, c := range []byte{0, 1, 128, 255} {
			b := bytes.Repeat([]byte{c}, n)
			file, err := block.Lay(b)
			wantBytes(t, fmt.Sprintf("%d times %d", n, c), file, err, fileOf(b), api.OK)
		}
	}
}

func TestLayTooLong(t *testing.T) {
	for _, n := range []int{most + 1, most + 2, most + 256, 2 * most, 1 << 20} {
		file, err := block.Lay(make([]byte, n))
		wantBytes(t, fmt.Sprint(n, " bytes"), file, err, nil, api.ErrLong)
	}
}

// P5.2

func TestReadKnown(t *testing.T) {
	b, err := block.Read(abcFile(), 3)
	wantBytes(t, "abc", b, err, []byte("abc"), api.OK)
	b, err = block.Read(abcFile(), 4)
	wantBytes(t, "abc as 4 bytes", b, err, nil, api.ErrBytes)
	b, err = block.Read(abcFile(), 2)
	wantBytes(t, "abc as 2 bytes", b, err, nil, api.ErrBytes)
	b, err = block.Read(turned(abcFile(), 1, 34), 3)
	wantBytes(t, "abc turned", b, err, nil, api.ErrDigest)
	b, err = block.Read(nil, 0)
	wantBytes(t, "none", b, err, nil, api.OK)
}

// TestReadOfAnyBytes: it is the file that counts, not that Lay laid it.
func TestReadOfAnyBytes(t *testing.T) {
	r := rand.New(rand.NewSource(2))
	for _, n := range edges {
		b := drawn(r, n)
		got, err := block.Read(fileOf(b), n)
		wantBytes(t, fmt.Sprint(n, " bytes"), got, err, b, api.OK)
	}
}

func TestReadOfWrongNumbers(t *testing.T) {
	for _, n := range wrongSizes {
		for _, file := range [][]byte{nil, abcFile(), make([]byte, 32), fileOf(make([]byte, most)), make([]byte, 73761)} {
			b, err := block.Read(file, n)
			wantBytes(t, fmt.Sprintf("a file of %d as %d bytes", len(file), n), b, err, nil, api.ErrRange)
		}
	}
}

// TestReadOfWrongSize: files that are cut off at any place, that have more behind them, that are for other numbers.
func TestReadOfWrongSize(t *testing.T) {
	r := rand.New(rand.NewSource(3))
	for _, n := range []int{1, 3, 255, 256, 257, 512, 600} {
		file := fileOf(drawn(r, n))
		for cut := range file {
			b, err := block.Read(file[:cut], n)
			wantBytes(t, fmt.Sprintf("%d bytes, cut off at %d", n, cut), b, err, nil, api.ErrBytes)
		}
		for _, more := range []int{1, 2, 31, 32, 33, 256, 288, 289} {
			b, err := block.Read(append(slices.Clone(file), make([]byte, more)...), n)
			wantBytes(t, fmt.Sprintf("%d bytes, %d more behind", n, more), b, err, nil, api.ErrBytes)
		}
		for other := range 900 {
			if other == n {
				continue
			}
			b, err := block.Read(file, other)
			wantBytes(t, fmt.Sprintf("%d bytes as %d", n, other), b, err, nil, api.ErrBytes)
		}
	}
	for _, file := range [][]byte{{0}, make([]byte, 32), abcFile(), make([]byte, 288)} {
		b, err := block.Read(file, 0)
		wantBytes(t, fmt.Sprintf("%d bytes as none", len(file)), b, err, nil, api.ErrBytes)
	}
	b, err := block.Read(make([]byte, 1<<20), most)
	wantBytes(t, "a great file", b, err, nil, api.ErrBytes)
}

// TestReadTurned: each byte of each digest and block, one bit and all of them.
func TestReadTurned(t *testing.T) {
	r := rand.New(rand.NewSource(4))
	for _, n := range []int{1, 3, 256, 257, 600} {
		file := fileOf(drawn(r, n))
		for place := range file {
			for _, mask := range []byte{1, 16, 128, 255} {
				b, err := block.Read(turned(file, mask, place), n)
				wantBytes(t, fmt.Sprintf("%d bytes, %d turned by %d", n, place, mask), b, err, nil, api.ErrDigest)
			}
		}
	}
}

// TestReadExchanged: a block that is sound by itself is sound in any place; a digest of another block is not.
func TestReadExchanged(t *testing.T) {
	b := drawn(rand.New(rand.NewSource(5)), 2*blockLen)
	file := fileOf(b)
	exchanged := slices.Concat(file[stride:], file[:stride])
	got, err := block.Read(exchanged, len(b))
	wantBytes(t, "blocks exchanged", got, err, slices.Concat(b[blockLen:], b[:blockLen]), api.OK)
	other := slices.Clone(file)
	copy(other, file[stride:stride+digestLen])
	copy(other[stride:], file[:digestLen])
	got, err = block.Read(other, len(b))
	wantBytes(t, "digests exchanged", got, err, nil, api.ErrDigest)
}

// TestReadOfOtherLayout: files of the right size whose digests stand elsewhere, or are those of other bytes.
func TestReadOfOtherLayout(t *testing.T) {
	b := drawn(rand.New(rand.NewSource(6)), 300)
	first, second, whole := sha256.Sum256(b[:256]), sha256.Sum256(b[256:]), sha256.Sum256(b)
	for i, file := range [][]byte{
		slices.Concat(b[:256], first[:], b[256:], second[:]),
		slices.Concat(first[:], second[:], b),
		slices.Concat(whole[:], b, make([]byte, 32)),
		slices.Concat(first[:], b[:256], whole[:], b[256:]),
		slices.Concat(first[:], b[:256], make([]byte, 32), b[256:]),
		make([]byte, 364),
	} {
		got, err := block.Read(file, 300)
		wantBytes(t, fmt.Sprint("layout ", i), got, err, nil, api.ErrDigest)
	}
}

func TestPartKnown(t *testing.T) {
	for _, c := range []struct {
		file        []byte
		n, from, to int
		wanted      string
		err         api.Errno
	}{
		{abcFile(), 3, 1, 2, "b", api.OK},
		{abcFile(), 3, 2, 4, "", api.ErrRange},
		{turned(abcFile(), 1, 34), 3, 1, 1, "", api.OK},
		{turned(abcFile(), 1, 34), 3, 1, 2, "", api.ErrDigest},
		{abcFile(), 3, 0, 3, "abc", api.OK},
		{abcFile(), 3, 0, 0, "", api.OK},
		{abcFile(), 3, 3, 3, "", api.OK},
		{abcFile(), 3, 4, 4, "", api.ErrRange},
		{abcFile(), 3, -1, 2, "", api.ErrRange},
		{abcFile(), 3, 2, 1, "", api.ErrRange},
		{nil, 0, 0, 0, "", api.OK},
		{nil, 0, 0, 1, "", api.ErrRange},
		{[]byte{1}, 0, 0, 0, "", api.ErrBytes},
	} {
		b, err := block.Part(c.file, c.n, c.from, c.to)
		wantBytes(t, fmt.Sprintf("Part(%x, %d, %d, %d)", c.file, c.n, c.from, c.to), b, err, []byte(c.wanted), c.err)
	}
}

// ends are where parts of so many bytes are looked at: around the edges of blocks, and behind the end.
func ends(n int) []int {
	l := []int{math.MinInt, -1, math.MaxInt}
	for i := 0; i <= n+blockLen; i += blockLen {
		l = append(l, i-1, i, i+1, i+100, i+255)
	}
	return append(l, n-1, n, n+1)
}

// TestPart: each two ends, of files that are sound, of ones that are turned in one block, and of ones of a wrong size.
func TestPart(t *testing.T) {
	r := rand.New(rand.NewSource(7))
	for _, n := range []int{0, 1, 255, 256, 257, 512, 513, 700} {
		file := fileOf(drawn(r, n))
		files := [][]byte{file, nil, append(slices.Clone(file), 0), make([]byte, len(file))}
		for place := 0; place < len(file); place += stride {
			files = append(files, turned(file, 1, place), turned(file, 64, place+digestLen), file[:place])
		}
		if n > 0 {
			files = append(files, turned(file, 2, len(file)-1), file[:len(file)-1])
		}
		for i, file := range files {
			for _, from := range ends(n) {
				for _, to := range ends(n) {
					wanted, wantedErr := partOf(file, n, from, to)
					b, err := block.Part(file, n, from, to)
					wantBytes(t, fmt.Sprintf("file %d, Part(.., %d, %d, %d)", i, n, from, to), b, err, wanted, wantedErr)
				}
			}
		}
	}
}

// TestPartOfEachTwoEnds: within one block, over the edge of two, over many.
func TestPartOfEachTwoEnds(t *testing.T) {
	b := drawn(rand.New(rand.NewSource(8)), 530)
	file := fileOf(b)
	for from := 0; from <= len(b); from += 3 {
		for to := from; to <= len(b); to += 1 + (from+to)%5 {
			got, err := block.Part(file, len(b), from, to)
			wantBytes(t, fmt.Sprintf("from %d to %d", from, to), got, err, b[from:to], api.OK)
		}
	}
}

// TestPartOfMany: drawn parts of drawn files of which some blocks are turned.
func TestPartOfMany(t *testing.T) {
	r := rand.New(rand.NewSource(9))
	for range 300 {
		n := r.Intn(5000)
		file := fileOf(drawn(r, n))
		for range r.Intn(3) {
			if n > 0 {
				file[r.Intn(len(file))] ^= byte(1 + r.Intn(255))
			}
		}
		for range 20 {
			from := r.Intn(n + 1)
			to := from + r.Intn(n-from+1)
			wanted, wantedErr := partOf(file, n, from, to)
			b, err := block.Part(file, n, from, to)
			wantBytes(t, fmt.Sprintf("Part(.., %d, %d, %d)", n, from, to), b, err, wanted, wantedErr)
		}
	}
}

// TestPartBesideTurned: of a block that is turned no byte is told, and of those beside it each one is.
func TestPartBesideTurned(t *testing.T) {
	b := drawn(rand.New(rand.NewSource(10)), 3*blockLen+40)
	sound := fileOf(b)
	for place := range sound {
		file := turned(sound, 8, place)
		bad := place / stride
		low, high := bad*blockLen, min(bad*blockLen+blockLen, len(b))
		for _, c := range []struct {
			from, to int
			err      api.Errno
		}{
			{0, low, api.OK}, {high, len(b), api.OK}, {low, low, api.OK}, {high, high, api.OK}, {low + 7, low + 7, api.OK},
			{low, low + 1, api.ErrDigest}, {high - 1, high, api.ErrDigest}, {low, high, api.ErrDigest},
			{0, low + 1, api.ErrDigest}, {high - 1, len(b), api.ErrDigest}, {0, len(b), api.ErrDigest},
		} {
			got, err := block.Part(file, len(b), c.from, c.to)
			wanted := b[c.from:c.to]
			if c.err != api.OK {
				wanted = nil
			}
			wantBytes(t, fmt.Sprintf("%d turned, from %d to %d", place, c.from, c.to), got, err, wanted, c.err)
		}
	}
}

// TestPartOfGreatest: the last bytes of the most that there may be.
func TestPartOfGreatest(t *testing.T) {
	b := drawn(rand.New(rand.NewSource(11)), most)
	file := fileOf(b)
	for _, c := range [][2]int{{0, most}, {most - 1, most}, {most, most}, {most - 300, most - 1}, {255, 65281}, {1, 2}} {
		got, err := block.Part(file, most, c[0], c[1])
		wantBytes(t, fmt.Sprint(c), got, err, b[c[0]:c[1]], api.OK)
	}
	got, err := block.Part(file, most, most, most+1)
	wantBytes(t, "one behind the end", got, err, nil, api.ErrRange)
}

// P5.3

func TestBadKnown(t *testing.T) {
	for _, c := range []struct {
		what   string
		file   []byte
		n      int
		wanted []int
	}{
		{"abc", abcFile(), 3, nil},
		{"abc turned", turned(abcFile(), 1, 34), 3, []int{0}},
		{"none as 300 bytes", nil, 300, []int{0, 1}},
		{"none", nil, 0, nil},
		{"none as 1 byte", nil, 1, []int{0}},
		{"none as 256 bytes", nil, 256, []int{0}},
		{"none as 257 bytes", nil, 257, []int{0, 1}},
		{"abc as none", abcFile(), 0, nil},
		{"noughts as none", make([]byte, 1000), 0, nil},
		{"abc as 4 bytes", abcFile(), 4, []int{0}},
		{"abc as 300 bytes", abcFile(), 300, []int{0, 1}},
		{"abc and a nought", append(abcFile(), 0), 3, []int{0}},
		{"abc twice", append(abcFile(), abcFile()...), 3, []int{0}},
	} {
		bad, err := block.Bad(c.file, c.n)
		wantBad(t, c.what, bad, err, c.wanted, api.OK)
	}
	every := make([]int, 256)
	for i := range every {
		every[i] = i
	}
	bad, err := block.Bad(nil, most)
	wantBad(t, "none as the most", bad, err, every, api.OK)
	bad, err = block.Bad(make([]byte, 73728), most)
	wantBad(t, "noughts as the most", bad, err, every, api.OK)
}

func TestBadOfSound(t *testing.T) {
	r := rand.New(rand.NewSource(12))
	for _, n := range edges {
		bad, err := block.Bad(fileOf(drawn(r, n)), n)
		wantBad(t, fmt.Sprint(n, " bytes"), bad, err, nil, api.OK)
	}
}

func TestBadOfWrongNumbers(t *testing.T) {
	for _, n := range wrongSizes {
		for _, file := range [][]byte{nil, abcFile(), make([]byte, 1000), fileOf(make([]byte, most)), make([]byte, 73761)} {
			bad, err := block.Bad(file, n)
			wantBad(t, fmt.Sprintf("a file of %d as %d bytes", len(file), n), bad, err, nil, api.ErrRange)
		}
	}
}

// TestBadOfEachChoice: each choice of blocks is turned, in their digests, in their bytes, or in both.
func TestBadOfEachChoice(t *testing.T) {
	r := rand.New(rand.NewSource(13))
	b := drawn(r, 4*blockLen+9)
	sound := fileOf(b)
	for choice := range 1 << 5 {
		for range 4 {
			file, wanted := slices.Clone(sound), []int(nil)
			for i := range 5 {
				if choice>>i&1 == 0 {
					continue
				}
				wanted = append(wanted, i)
				end := min((i+1)*stride, len(file))
				file[i*stride+r.Intn(end-i*stride)] ^= byte(1 + r.Intn(255))
			}
			bad, err := block.Bad(file, len(b))
			wantBad(t, fmt.Sprintf("choice %05b", choice), bad, err, wanted, api.OK)
		}
	}
}

// TestBadOfCutOff: a block that is not there whole, and all behind it, are not sound.
func TestBadOfCutOff(t *testing.T) {
	r := rand.New(rand.NewSource(14))
	for _, n := range []int{1, 3, 255, 256, 257, 512, 700} {
		file := fileOf(drawn(r, n))
		for cut := range len(file) + 1 {
			var wanted []int
			for i := 0; i*blockLen < n; i++ {
				if cut < min((i+1)*stride, len(file)) {
					wanted = append(wanted, i)
				}
			}
			bad, err := block.Bad(file[:cut], n)
			wantBad(t, fmt.Sprintf("%d bytes, cut off at %d", n, cut), bad, err, wanted, api.OK)
		}
	}
}

// TestBadOfShortText: a block whose digest is that of the fewer bytes that are there is not there whole.
func TestBadOfShortText(t *testing.T) {
	r := rand.New(rand.NewSource(15))
	for _, c := range []struct {
		have, n int
		wanted  []int
	}{
		{3, 4, []int{0}}, {255, 256, []int{0}}, {256, 257, []int{1}}, {300, 301, []int{1}}, {300, 512, []int{1}},
		{300, 513, []int{1, 2}}, {512, 513, []int{2}}, {200, 600, []int{0, 1, 2}},
	} {
		bad, err := block.Bad(fileOf(drawn(r, c.have)), c.n)
		wantBad(t, fmt.Sprintf("%d bytes as %d", c.have, c.n), bad, err, c.wanted, api.OK)
	}
	none := sha256.Sum256(nil)
	bad, err := block.Bad(none[:], 1)
	wantBad(t, "the digest of no bytes as 1", bad, err, []int{0}, api.OK)
	bad, err = block.Bad(slices.Concat(fileOf(make([]byte, blockLen)), none[:]), blockLen+1)
	wantBad(t, "that behind a block", bad, err, []int{1}, api.OK)
}

// TestBadOfMoreBehind: only the last block is held against what follows it.
func TestBadOfMoreBehind(t *testing.T) {
	r := rand.New(rand.NewSource(16))
	for _, n := range []int{1, 3, 255, 256, 257, 512, 700} {
		file := fileOf(drawn(r, n))
		last := (n - 1) / blockLen
		for _, more := range []int{1, 2, 31, 32, 33, 255, 256, 288, 1000} {
			for _, behind := range [][]byte{make([]byte, more), drawn(r, more), fileOf(drawn(r, more))} {
				bad, err := block.Bad(slices.Concat(file, behind), n)
				wantBad(t, fmt.Sprintf("%d bytes, %d more", n, len(behind)), bad, err, []int{last}, api.OK)
			}
		}
		if last > 0 {
			bad, err := block.Bad(append(turned(file, 1, 40), 0), n)
			wantBad(t, fmt.Sprintf("%d bytes, the first turned, one more", n), bad, err, slices.Compact([]int{0, last}), api.OK)
		}
	}
}

// TestBadOfWholeRest: the last block's digest is held against the whole rest, so that it is sound if it is that of it.
func TestBadOfWholeRest(t *testing.T) {
	r := rand.New(rand.NewSource(17))
	for _, n := range []int{1, 3, 255, 256, 257, 511, 512, 600} {
		b := drawn(r, n)
		ahead := (n - 1) / blockLen * blockLen
		for _, more := range []int{1, 100, 256, 1000} {
			rest := append(slices.Clone(b[ahead:]), drawn(r, more)...)
			d := sha256.Sum256(rest)
			file := slices.Concat(fileOf(b[:ahead]), d[:], rest)
			bad, err := block.Bad(file, n)
			wantBad(t, fmt.Sprintf("%d bytes, %d more", n, more), bad, err, nil, api.OK)
			got, err := block.Read(file, n)
			wantBytes(t, fmt.Sprintf("%d bytes, %d more, read", n, more), got, err, nil, api.ErrBytes)
			bad, err = block.Bad(turned(file, 1, len(file)-1), n)
			wantBad(t, fmt.Sprintf("%d bytes, %d more, the last turned", n, more), bad, err, []int{ahead / blockLen}, api.OK)
		}
	}
	bad, err := block.Bad(fileOf([]byte("abcd")), 3)
	wantBad(t, "abcd as 3 bytes", bad, err, nil, api.OK)
}

// TestBadOfMany: drawn files of drawn sizes, for other numbers than theirs.
func TestBadOfMany(t *testing.T) {
	r := rand.New(rand.NewSource(18))
	for range 1000 {
		file := fileOf(drawn(r, r.Intn(3000)))
		for range r.Intn(4) {
			if len(file) > 0 {
				file[r.Intn(len(file))] ^= byte(r.Intn(256))
			}
		}
		file = file[:r.Intn(len(file)+1)]
		n := r.Intn(3000)
		bad, err := block.Bad(file, n)
		wantBad(t, fmt.Sprintf("a file of %d as %d bytes", len(file), n), bad, err, badOf(file, n), api.OK)
	}
}

// P5.4

// TestThereAndBack: each length up to some blocks, drawn ones and the greatest ones.
func TestThereAndBack(t *testing.T) {
	r := rand.New(rand.NewSource(19))
	lengths := slices.Clone(edges)
	for n := range 1100 {
		lengths = append(lengths, n)
	}
	for range 50 {
		lengths = append(lengths, r.Intn(most+1))
	}
	for _, n := range lengths {
		b := drawn(r, n)
		file, err := block.Lay(b)
		if err != api.OK {
			t.Fatal(n, err)
		}
		got, err := block.Read(file, n)
		wantBytes(t, fmt.Sprint(n, " bytes"), got, err, b, api.OK)
		bad, err := block.Bad(file, n)
		wantBad(t, fmt.Sprint(n, " bytes"), bad, err, nil, api.OK)
		for range 4 {
			from := r.Intn(n + 1)
			to := from + r.Intn(n-from+1)
			got, err := block.Part(file, n, from, to)
			wantBytes(t, fmt.Sprintf("%d bytes, from %d to %d", n, from, to), got, err, b[from:to], api.OK)
		}
	}
}

// TestReadIsLaid: whatever is read as bytes is just their file.
func TestReadIsLaid(t *testing.T) {
	r := rand.New(rand.NewSource(20))
	read := 0
	for range 3000 {
		b := drawn(r, r.Intn(700))
		file := fileOf(b)
		for range r.Intn(3) {
			if len(file) > 0 {
				file[r.Intn(len(file))] ^= byte(r.Intn(2))
			}
		}
		n := len(b) + r.Intn(3)/2
		got, err := block.Read(file, n)
		if err != api.OK {
			continue
		}
		read++
		laid, err := block.Lay(got)
		wantBytes(t, fmt.Sprint(n, " bytes, laid anew"), laid, err, file, api.OK)
	}
	if read < 100 {
		t.Errorf("only %d files were read", read)
	}
}

// TestOneTurned: Read tells that a byte is turned, and Bad in which block.
func TestOneTurned(t *testing.T) {
	r := rand.New(rand.NewSource(21))
	for _, n := range []int{1, 256, 257, 800} {
		b := drawn(r, n)
		sound, _ := block.Lay(b)
		for place := range sound {
			file := turned(sound, byte(1+r.Intn(255)), place)
			got, err := block.Read(file, n)
			wantBytes(t, fmt.Sprintf("%d bytes, %d turned", n, place), got, err, nil, api.ErrDigest)
			bad, err := block.Bad(file, n)
			wantBad(t, fmt.Sprintf("%d bytes, %d turned", n, place), bad, err, []int{place / stride}, api.OK)
		}
	}
	b := drawn(r, most)
	sound, _ := block.Lay(b)
	for range 40 {
		place := r.Intn(len(sound))
		bad, err := block.Bad(turned(sound, 32, place), most)
		wantBad(t, fmt.Sprintf("the most, %d turned", place), bad, err, []int{place / stride}, api.OK)
	}
}

// The order of errors

func TestOrderOfErrors(t *testing.T) {
	file := fileOf(make([]byte, 300))
	broken := turned(file, 1, 0)
	for _, c := range []struct {
		what        string
		file        []byte
		n, from, to int
		wanted      api.Errno
	}{
		{"n, from, the size and a digest are wrong", broken[:300], -1, -1, 0, api.ErrRange},
		{"n and the size are wrong", broken, most + 1, 0, 1, api.ErrRange},
		{"n is wrong, and there is no file", nil, -1, 0, 0, api.ErrRange},
		{"from and the size are wrong", broken[:300], 300, -1, 1, api.ErrRange},
		{"to and the size are wrong", broken[:300], 300, 1, 301, api.ErrRange},
		{"the ends are exchanged and the size is wrong", nil, 300, 2, 1, api.ErrRange},
		{"from and a digest are wrong", broken, 300, -1, 1, api.ErrRange},
		{"to and a digest are wrong", broken, 300, 0, 301, api.ErrRange},
		{"the size and a digest are wrong", broken[:363], 300, 0, 1, api.ErrBytes},
		{"the size is too great and a digest wrong", append(slices.Clone(broken), 0), 300, 0, 1, api.ErrBytes},
		{"the size is wrong, and no byte is asked for", file[:363], 300, 7, 7, api.ErrBytes},
		{"there is no file, and no byte is asked for", nil, 300, 0, 0, api.ErrBytes},
		{"a digest is wrong", broken, 300, 0, 1, api.ErrDigest},
		{"a digest is wrong, and no byte is asked for", broken, 300, 0, 0, api.OK},
	} {
		b, err := block.Part(c.file, c.n, c.from, c.to)
		wantBytes(t, c.what, b, err, nil, c.wanted)
	}
	b, err := block.Read(broken[:300], -1)
	wantBytes(t, "Read: all is wrong", b, err, nil, api.ErrRange)
	b, err = block.Read(broken[:300], 300)
	wantBytes(t, "Read: the size and a digest are wrong", b, err, nil, api.ErrBytes)
	bad, err := block.Bad(broken[:300], -1)
	wantBad(t, "Bad: all is wrong", bad, err, nil, api.ErrRange)
}

// Memory

const mark = 0xa5

// roomy is a copy of bytes with spare room, which is marked.
func roomy(b []byte) []byte {
	room := slices.Concat(b, bytes.Repeat([]byte{mark}, 400))
	return room[:len(b):len(room)]
}

// untouched tells whether bytes are as they were, and their spare room, too.
func untouched(b, was []byte) bool {
	room := b[:cap(b)][len(b):]
	return bytes.Equal(b, was) && bytes.Count(room, []byte{mark}) == len(room)
}

// fill writes all over bytes and their spare room.
func fill(b []byte, c byte) {
	b = b[:cap(b)]
	for i := range b {
		b[i] = c
	}
}

func TestNothingIsChanged(t *testing.T) {
	r := rand.New(rand.NewSource(22))
	for _, n := range []int{0, 1, 255, 256, 257, 600} {
		b := drawn(r, n)
		data := roomy(b)
		block.Lay(data)
		if !untouched(data, b) {
			t.Errorf("Lay of %d bytes changed them", n)
		}
		sound := fileOf(b)
		for _, was := range [][]byte{sound, sound[:len(sound)/2], make([]byte, len(sound)), append(slices.Clone(sound), 1)} {
			file := roomy(was)
			block.Read(file, n)
			block.Part(file, n, n/3, n/2)
			block.Part(file, n, n, n)
			block.Bad(file, n)
			block.Bad(file, n+300)
			block.Read(file, -1)
			block.Part(file, n, 2, 1)
			if !untouched(file, was) {
				t.Errorf("a file of %d bytes was changed", n)
			}
		}
	}
}

// TestAnswersAreTheirOwn: what is written into an argument later is not seen in an answer, nor the other way round, in
// spare room neither.
func TestAnswersAreTheirOwn(t *testing.T) {
	r := rand.New(rand.NewSource(23))
	for _, n := range []int{0, 1, 255, 256, 257, 600} {
		b := drawn(r, n)
		data, sound := roomy(b), fileOf(b)
		laid, _ := block.Lay(data)
		fill(laid, 7)
		if !untouched(data, b) {
			t.Errorf("what Lay answers of %d bytes is theirs", n)
		}
		laid, _ = block.Lay(data)
		fill(data, 9)
		if !bytes.Equal(laid, sound) {
			t.Errorf("what Lay answers of %d bytes follows them", n)
		}
		for _, c := range [][2]int{{0, n}, {n / 3, n / 2}, {n, n}, {0, min(n, 256)}} {
			file := roomy(sound)
			part, _ := block.Part(file, n, c[0], c[1])
			again, _ := block.Part(file, n, c[0], c[1])
			whole, _ := block.Read(file, n)
			fill(part, 7)
			fill(whole, 8)
			if !untouched(file, sound) || !bytes.Equal(again, b[c[0]:c[1]]) {
				t.Errorf("the part %v of %d bytes is the file's, or another answer's", c, n)
			}
			whole, _ = block.Read(file, n)
			fill(file, 9)
			if !bytes.Equal(again, b[c[0]:c[1]]) || !bytes.Equal(whole, b) {
				t.Errorf("the part %v of %d bytes follows the file", c, n)
			}
		}
		bad, _ := block.Bad(nil, n)
		wanted := slices.Clone(bad)
		other, _ := block.Bad(nil, n)
		for i := range other[:cap(other)] {
			other[:cap(other)][i] = -1
		}
		if !slices.Equal(bad, wanted) {
			t.Errorf("two answers of Bad of %d bytes are one", n)
		}
	}
}

// TestSpareRoomIsNotRead: what a file lacks stands in its spare room.
func TestSpareRoomIsNotRead(t *testing.T) {
	r := rand.New(rand.NewSource(24))
	for _, n := range []int{1, 255, 256, 257, 600} {
		b := drawn(r, n)
		file := fileOf(b)
		last := (n - 1) / blockLen
		for _, cut := range []int{len(file) - 1, last*stride + digestLen, last*stride + 1, last * stride} {
			got, err := block.Read(file[:cut], n)
			wantBytes(t, fmt.Sprintf("%d bytes, cut off at %d", n, cut), got, err, nil, api.ErrBytes)
			got, err = block.Part(file[:cut], n, n-1, n)
			wantBytes(t, fmt.Sprintf("%d bytes, cut off at %d, the last", n, cut), got, err, nil, api.ErrBytes)
			bad, err := block.Bad(file[:cut], n)
			wantBad(t, fmt.Sprintf("%d bytes, cut off at %d", n, cut), bad, err, []int{last}, api.OK)
		}
		laid, err := block.Lay(b[:n-1])
		wantBytes(t, fmt.Sprint("all but one of ", n), laid, err, fileOf(b[:n-1]), api.OK)
		bad, err := block.Bad(roomy(file), n)
		wantBad(t, fmt.Sprint("marked room behind ", n), bad, err, nil, api.OK)
	}
}
