package digest_test

import (
	"bytes"
	"crypto/sha256"
	"encoding/hex"
	"fmt"
	"math/rand"
	"slices"
	"strings"
	"testing"

	"stowage/api"
	"stowage/digest"
)

const (
	mostTexts = 4096
	mostTags  = 32
)

func drawn(r *rand.Rand, size int) []byte {
	b := make([]byte, size)
	r.Read(b)
	return b
}

// sum is the digest as the library of the language has it.
func sum(b []byte) api.Digest { return sha256.Sum256(b) }

// digits are those of bytes as the library of the language has them.
func digits(b []byte) string { return hex.EncodeToString(b) }

func wantDigest(t *testing.T, what string, d api.Digest, err api.Errno, wanted api.Digest, wantedErr api.Errno) {
	t.Helper()
	if d != wanted || err != wantedErr {
		t.Errorf("%s: %x, %d; want %x, %d", what, d, err, wanted, wantedErr)
	}
}

func wantText(t *testing.T, what string, s string, err api.Errno, wanted string, wantedErr api.Errno) {
	t.Helper()
	if s != wanted || err != wantedErr {
		t.Errorf("%s: %q, %d; want %q, %d", what, s, err, wanted, wantedErr)
	}
}

// isDigit is as DOC.md says it: 0 to 9 and a to f.
func isDigit(c byte) bool { return strings.IndexByte("0123456789abcdef", c) >= 0 }

// turned is a text with another byte at a place.
func turned(s string, place int, c byte) string { return s[:place] + string([]byte{c}) + s[place+1:] }

// P4.1

// TestKnown: digests that others have told, the document's examples first.
func TestKnown(t *testing.T) {
	for _, c := range []struct{ what, text, wanted string }{
		{"abc", "abc", "ba7816bf8f01cfea414140de5dae2223b00361a396177a9cb410ff61f20015ad"},
		{"none", "", "e3b0c44298fc1c149afbf4c8996fb92427ae41e4649b934ca495991b7852b855"},
		{"a", "a", "ca978112ca1bbdcafac231b39a23dc4da786eff8147c4e72b9807785afee48bb"},
		{"56 bytes", "abcdbcdecdefdefgefghfghighijhijkijkljklmklmnlmnomnopnopq",
			"248d6a61d20638b8e5c026930c3e6039a33ce45964ff2167f6ecedd419db06c1"},
		{"112 bytes", "abcdefghbcdefghicdefghijdefghijkefghijklfghijklmghijklmnhijklmnoijklmnopjklmnopqklmnopqrlmnopqrsmnopqrstnopqrstu",
			"cf5b16a778af8380036ce59e7b0492370b249b11e8f07a51afac45037afee9d1"},
		{"1000 times a", strings.Repeat("a", 1000), "41edece42d63e8d9bf515a9ba6932e1c20cbc9f5a5d134645adb5db1b9737ea3"},
		{"a million times a", strings.Repeat("a", 1000000), "cdc76e5c9914fb9281a1c7e284d73e67f1809a48a497200e046d39ccc7112cd0"},
	} {
		d := digest.Sum([]byte(c.text))
		if got := digits(d[:]); got != c.wanted {
			t.Errorf("%s: %s; want %s", c.what, got, c.wanted)
		}
	}
}

func TestSumOfNil(t *testing.T) {
	if d := digest.Sum(nil); d != sum(nil) || d != digest.Sum([]byte{}) {
		t.Errorf("%x", d)
	}
}

// TestSumOfEachLength: 55, 56, 63, 64, 65, 119, 120, 127, 128 bytes and all others of the first blocks; bytes of
// noughts, of ones like that behind the end, and drawn ones.
func TestSumOfEachLength(t *testing.T) {
	r := rand.New(rand.NewSource(1))
	for size := range 600 {
		for _, b := range [][]byte{
			make([]byte, size),
			bytes.Repeat([]byte{128}, size),
			bytes.Repeat([]byte{255}, size),
			drawn(r, size),
			drawn(r, size),
		} {
			if d := digest.Sum(b); d != sum(b) {
				t.Errorf("%d bytes, %x: %x; want %x", size, b, d, sum(b))
			}
		}
	}
}

func TestSumOfLong(t *testing.T) {
	r := rand.New(rand.NewSource(2))
	for _, size := range []int{1000, 4095, 4096, 4097, 8191, 8192, 65535, 65536, 65537, 100000, 1 << 20, 1<<21 + 57} {
		b := drawn(r, size)
		if d := digest.Sum(b); d != sum(b) {
			t.Errorf("%d bytes: %x; want %x", size, d, sum(b))
		}
	}
	for range 200 {
		b := drawn(r, r.Intn(10000))
		if d := digest.Sum(b); d != sum(b) {
			t.Errorf("%d bytes: %x; want %x", len(b), d, sum(b))
		}
	}
}

// TestSumOfManyBits: so many bytes that their bits are no longer counted in 32 bits.
func TestSumOfManyBits(t *testing.T) {
	b := make([]byte, 1<<29+3)
	if d := digest.Sum(b); d != sum(b) {
		t.Errorf("%x; want %x", d, sum(b))
	}
}

// TestEachBitCounts: a bit that is turned anywhere makes another digest.
func TestEachBitCounts(t *testing.T) {
	b := drawn(rand.New(rand.NewSource(3)), 200)
	seen := map[api.Digest]int{digest.Sum(b): -1}
	for i := range 8 * len(b) {
		b[i/8] ^= 1 << (i % 8)
		d := digest.Sum(b)
		if other, ok := seen[d]; ok || d != sum(b) {
			t.Errorf("bit %d turned: %x, as with %d", i, d, other)
		}
		seen[d] = i
		b[i/8] ^= 1 << (i % 8)
	}
}

// TestSumNeedsNoMemory: blocks and words are held by value, however many there are.
func TestSumNeedsNoMemory(t *testing.T) {
	b := make([]byte, 10000)
	if n := testing.AllocsPerRun(5, func() { digest.Sum(b) }); n != 0 {
		t.Errorf("%v pieces of memory", n)
	}
}

// ofTexts lays the digests one behind the other.
func ofTexts(l [][]byte) api.Digest {
	var all []byte
	for _, b := range l {
		d := sum(b)
		all = append(all, d[:]...)
	}
	return sum(all)
}

func drawnTexts(r *rand.Rand, n int) [][]byte {
	l := make([][]byte, n)
	for i := range l {
		l[i] = drawn(r, r.Intn(70))
	}
	return l
}

func TestOf(t *testing.T) {
	r := rand.New(rand.NewSource(4))
	for _, n := range []int{0, 1, 2, 3, 4, 5, 16, 100, 1000, mostTexts - 1, mostTexts} {
		for _, l := range [][][]byte{drawnTexts(r, n), make([][]byte, n)} {
			d, err := digest.Of(l)
			wantDigest(t, fmt.Sprint(n, " texts"), d, err, ofTexts(l), api.OK)
		}
	}
}

// TestOfKnown: told by hand: of no text, of one, and that texts are not only laid one behind the other.
func TestOfKnown(t *testing.T) {
	none, err := digest.Of(nil)
	wantDigest(t, "no text", none, err, sum(nil), api.OK)
	none, err = digest.Of([][]byte{})
	wantDigest(t, "an empty list", none, err, sum(nil), api.OK)
	empty, err := digest.Of([][]byte{nil})
	first := sum(nil)
	wantDigest(t, "an empty text", empty, err, sum(first[:]), api.OK)
	one, err := digest.Of([][]byte{[]byte("abc")})
	abc := sum([]byte("abc"))
	wantDigest(t, "one text", one, err, sum(abc[:]), api.OK)
	if digits(one[:]) != "4f8b42c22dd3729b519ba6f68d2da7cc5b2d606d05daed5ad5128cc03e6c6358" {
		t.Errorf("one text: %x", one)
	}
	ab, _ := digest.Of([][]byte{[]byte("a"), []byte("b")})
	ba, _ := digest.Of([][]byte{[]byte("b"), []byte("a")})
	joined, _ := digest.Of([][]byte{[]byte("ab")})
	if ab == ba || ab == joined || ba == joined {
		t.Errorf("a and b %x, b and a %x, ab %x", ab, ba, joined)
	}
}

func TestOfTooMany(t *testing.T) {
	r := rand.New(rand.NewSource(5))
	for _, n := range []int{mostTexts + 1, mostTexts + 2, 2 * mostTexts, 10 * mostTexts} {
		for _, l := range [][][]byte{make([][]byte, n), drawnTexts(r, n)} {
			d, err := digest.Of(l)
			wantDigest(t, fmt.Sprint(n, " texts"), d, err, api.Digest{}, api.ErrLong)
		}
	}
}

// TestOfLongTexts: a text may be of any length.
func TestOfLongTexts(t *testing.T) {
	l := [][]byte{make([]byte, 70000), {}, make([]byte, 1<<20)}
	d, err := digest.Of(l)
	wantDigest(t, "long texts", d, err, ofTexts(l), api.OK)
}

// P4.2

func TestHex(t *testing.T) {
	var d api.Digest
	if s := digest.Hex(d); s != strings.Repeat("0", 64) {
		t.Errorf("the zero digest: %q", s)
	}
	for i := range d {
		d = api.Digest{}
		for n := range 256 {
			d[i] = byte(n)
			wanted := strings.Repeat("00", i) + fmt.Sprintf("%02x", n) + strings.Repeat("00", 31-i)
			if s := digest.Hex(d); s != wanted {
				t.Errorf("byte %d is %d: %q; want %q", i, n, s, wanted)
			}
		}
	}
	if s := digest.Hex(digest.Sum([]byte("abc"))); s != "ba7816bf8f01cfea414140de5dae2223b00361a396177a9cb410ff61f20015ad" {
		t.Errorf("abc: %q", s)
	}
	if s := digest.Hex(digest.Sum(nil)); s != "e3b0c44298fc1c149afbf4c8996fb92427ae41e4649b934ca495991b7852b855" {
		t.Errorf("none: %q", s)
	}
}

func TestRead(t *testing.T) {
	d, err := digest.Read(strings.Repeat("0", 64))
	wantDigest(t, "noughts", d, err, api.Digest{}, api.OK)
	d, err = digest.Read("000102030405060708090a0b0c0d0e0f101112131415161718191a1b1c1d1e1f")
	wanted := api.Digest{}
	for i := range wanted {
		wanted[i] = byte(i)
	}
	wantDigest(t, "0 to 31", d, err, wanted, api.OK)
	d, err = digest.Read(strings.Repeat("f", 64))
	for i := range wanted {
		wanted[i] = 255
	}
	wantDigest(t, "64 times f", d, err, wanted, api.OK)
	r := rand.New(rand.NewSource(6))
	for range 300 {
		b := drawn(r, 32)
		d, err := digest.Read(digits(b))
		wantDigest(t, digits(b), d, err, api.Digest(b), api.OK)
	}
}

// TestReadOfOtherLengths: only 64 digits will do.
func TestReadOfOtherLengths(t *testing.T) {
	for _, digit := range []string{"0", "7", "a", "f"} {
		for n := range 200 {
			if n == 64 {
				continue
			}
			d, err := digest.Read(strings.Repeat(digit, n))
			wantDigest(t, fmt.Sprint(n, " times ", digit), d, err, api.Digest{}, api.ErrBytes)
		}
	}
	for _, n := range []int{64 + 256, 65536 + 64, 1 << 20} {
		d, err := digest.Read(strings.Repeat("0", n))
		wantDigest(t, fmt.Sprint(n, " digits"), d, err, api.Digest{}, api.ErrBytes)
	}
}

// TestReadOfOtherSigns: each byte that is no digit, at each place: those beside the digits, capital letters and the
// bytes of greater signs among them.
func TestReadOfOtherSigns(t *testing.T) {
	good := digits(drawn(rand.New(rand.NewSource(7)), 32))
	for place := range good {
		for n := range 256 {
			s := turned(good, place, byte(n))
			d, err := digest.Read(s)
			if !isDigit(byte(n)) {
				wantDigest(t, fmt.Sprintf("%q", s), d, err, api.Digest{}, api.ErrBytes)
				continue
			}
			b, _ := hex.DecodeString(s)
			wantDigest(t, s, d, err, api.Digest(b), api.OK)
		}
	}
}

func TestReadOfWrongTexts(t *testing.T) {
	zeros := strings.Repeat("0", 62)
	for _, s := range []string{
		strings.Repeat("G", 64), strings.Repeat("g", 64), strings.Repeat("A", 64), strings.Repeat(" ", 64),
		strings.Repeat("\x00", 64), strings.Repeat("\xff", 64), "BA7816BF8F01CFEA414140DE5DAE2223B00361A396177A9CB410FF61F20015AD",
		"0x" + zeros, zeros + "0x", "-0" + zeros, "+0" + zeros, " 0" + zeros, zeros + "0\n", zeros + "\r\n", zeros + "é",
		"0x" + zeros + "00", " " + zeros + "00", zeros + "00\n", "-" + zeros + "00", strings.Repeat("é", 32),
		strings.Repeat("０", 64), strings.Repeat("0", 61) + "０", strings.Repeat("a_", 32), "\"" + zeros + "\"",
	} {
		d, err := digest.Read(s)
		wantDigest(t, fmt.Sprintf("%q", s), d, err, api.Digest{}, api.ErrBytes)
	}
}

func TestTag(t *testing.T) {
	for _, c := range []struct{ text, wanted string }{
		{"abc", "ba7816bf8f01cfea414140de5dae2223"},
		{"", "e3b0c44298fc1c149afbf4c8996fb924"},
		{"a", "ca978112ca1bbdcafac231b39a23dc4d"},
	} {
		if s := digest.Tag([]byte(c.text)); s != c.wanted {
			t.Errorf("%q: %q; want %q", c.text, s, c.wanted)
		}
	}
	if s := digest.Tag(nil); s != "e3b0c44298fc1c149afbf4c8996fb924" {
		t.Errorf("nil: %q", s)
	}
	r := rand.New(rand.NewSource(8))
	for size := range 300 {
		b := drawn(r, size)
		d := sum(b)
		if s := digest.Tag(b); s != digits(d[:16]) {
			t.Errorf("%x: %q; want %q", b, s, digits(d[:16]))
		}
	}
}

func drawnTags(r *rand.Rand, n int) []string {
	l := make([]string, n)
	for i := range l {
		l[i] = digits(drawn(r, 16))
	}
	return l
}

// tagsOf is the tag of tags as the document says it.
func tagsOf(l []string) string {
	b, err := hex.DecodeString(strings.Join(l, ""))
	if err != nil {
		panic(err)
	}
	d := sum(b)
	return fmt.Sprintf("%x-%d", d[:16], len(l))
}

func TestTags(t *testing.T) {
	r := rand.New(rand.NewSource(9))
	for n := range mostTags + 1 {
		for range 10 {
			l := drawnTags(r, n)
			s, err := digest.Tags(l)
			wantText(t, fmt.Sprint(l), s, err, tagsOf(l), api.OK)
		}
	}
}

// TestTagsKnown: none, as the document has it; of one tag the bytes that its digits say count, not the digits.
func TestTagsKnown(t *testing.T) {
	s, err := digest.Tags(nil)
	wantText(t, "none", s, err, "e3b0c44298fc1c149afbf4c8996fb924-0", api.OK)
	s, err = digest.Tags([]string{})
	wantText(t, "an empty list", s, err, "e3b0c44298fc1c149afbf4c8996fb924-0", api.OK)
	s, err = digest.Tags([]string{"x"})
	wantText(t, "x", s, err, "", api.ErrBytes)
	s, err = digest.Tags([]string{strings.Repeat("0", 32)})
	wantText(t, "noughts", s, err, "374708fff7719dd5979ec875d56cd228-1", api.OK)
	s, err = digest.Tags([]string{strings.Repeat("0", 32), strings.Repeat("0", 32)})
	wantText(t, "noughts twice", s, err, "66687aadf862bd776c8fc18b8e9f8e20-2", api.OK)
	a, b := strings.Repeat("1", 32), strings.Repeat("2", 32)
	ab, _ := digest.Tags([]string{a, b})
	ba, _ := digest.Tags([]string{b, a})
	if ab == ba {
		t.Errorf("%s both ways", ab)
	}
}

func TestTagsTooMany(t *testing.T) {
	r := rand.New(rand.NewSource(10))
	for _, n := range []int{mostTags + 1, mostTags + 2, 2 * mostTags, 100, 1000} {
		s, err := digest.Tags(drawnTags(r, n))
		wantText(t, fmt.Sprint(n, " tags"), s, err, "", api.ErrLong)
		// ErrLong comes first, whatever the tags are.
		s, err = digest.Tags(make([]string, n))
		wantText(t, fmt.Sprint(n, " empty tags"), s, err, "", api.ErrLong)
		for _, place := range []int{0, n / 2, n - 1} {
			l := drawnTags(r, n)
			l[place] = "x"
			s, err = digest.Tags(l)
			wantText(t, fmt.Sprint(n, " tags, wrong at ", place), s, err, "", api.ErrLong)
		}
	}
}

// wrongTags are texts that are no tags.
func wrongTags() []string {
	half := strings.Repeat("0", 16)
	l := []string{
		"x", "-", "null", half + half + "-1", "\"" + half + half + "\"", strings.ToUpper("ba7816bf8f01cfea414140de5dae2223"),
		strings.Repeat("A", 32), strings.Repeat("G", 32), strings.Repeat("g", 32), strings.Repeat("é", 16), strings.Repeat("０", 32),
		half + half[1:] + " ", " " + half + half[1:], "0x" + half + half[2:], "-" + half + half[1:], half + half[1:] + "\n",
		half + half[1:] + "\x00", half + half[1:] + "F", half + "F" + half[1:], strings.Repeat("\xff", 32),
	}
	for n := range 130 {
		if n != 32 {
			l = append(l, strings.Repeat("a", n))
		}
	}
	return l
}

// TestTagsOfWrongOnes: alone, and at each place of some and of as many as may be.
func TestTagsOfWrongOnes(t *testing.T) {
	r := rand.New(rand.NewSource(11))
	for _, wrong := range wrongTags() {
		for _, n := range []int{1, 2, 3, 7, mostTags} {
			for place := range n {
				l := drawnTags(r, n)
				l[place] = wrong
				s, err := digest.Tags(l)
				wantText(t, fmt.Sprintf("%q at %d of %d", wrong, place, n), s, err, "", api.ErrBytes)
			}
		}
		s, err := digest.Tags(slices.Repeat([]string{wrong}, mostTags))
		wantText(t, fmt.Sprintf("%d times %q", mostTags, wrong), s, err, "", api.ErrBytes)
	}
}

// TestTagsOfOtherSigns: each byte that is no digit, at each place.
func TestTagsOfOtherSigns(t *testing.T) {
	l := drawnTags(rand.New(rand.NewSource(12)), 3)
	for i, good := range l {
		for place := range good {
			for n := range 256 {
				l[i] = turned(good, place, byte(n))
				s, err := digest.Tags(l)
				if isDigit(byte(n)) {
					wantText(t, fmt.Sprint(l), s, err, tagsOf(l), api.OK)
				} else {
					wantText(t, fmt.Sprintf("%q", l), s, err, "", api.ErrBytes)
				}
			}
		}
		l[i] = good
	}
}

// TestTagsAreHeldOneByOne: digits that would do if they were parted elsewhere are refused.
func TestTagsAreHeldOneByOne(t *testing.T) {
	for _, sizes := range [][]int{{31, 33}, {33, 31}, {0, 64}, {64, 0}, {30, 34}, {32, 31, 33}, {16, 16}, {64}, {32, 32, 0}} {
		var l []string
		for _, n := range sizes {
			l = append(l, strings.Repeat("0", n))
		}
		s, err := digest.Tags(l)
		wantText(t, fmt.Sprint("of ", sizes, " digits"), s, err, "", api.ErrBytes)
	}
}

// TestTagsOfTags: what Tags tells is no tag itself.
func TestTagsOfTags(t *testing.T) {
	s, err := digest.Tags([]string{digest.Tag([]byte("abc"))})
	wantText(t, "abc's", s, err, tagsOf([]string{"ba7816bf8f01cfea414140de5dae2223"}), api.OK)
	s, err = digest.Tags([]string{s})
	wantText(t, "once more", s, err, "", api.ErrBytes)
}

// P4.3

// TestThereAndBack: a digest is read of its digits; what is read is written as the same ones.
func TestThereAndBack(t *testing.T) {
	r := rand.New(rand.NewSource(13))
	for n := range 2000 {
		d := api.Digest(drawn(r, 32))
		if n%2 == 0 {
			d = digest.Sum(d[:n%33])
		}
		s := digest.Hex(d)
		back, err := digest.Read(s)
		wantDigest(t, s, back, err, d, api.OK)
		if again := digest.Hex(back); again != s {
			t.Errorf("%q was read and written as %q", s, again)
		}
	}
}

// TestReadIsWritten: of drawn texts, most of which have one sign that is none of a digest's, those that are read are
// written as they were, and no two are read as one digest.
func TestReadIsWritten(t *testing.T) {
	r := rand.New(rand.NewSource(14))
	const signs = "0123456789abcdefABCDEFgG -"
	seen := map[api.Digest]string{}
	for range 5000 {
		s := []byte(digits(drawn(r, 32)))
		s[r.Intn(64)] = signs[r.Intn(len(signs))]
		d, err := digest.Read(string(s))
		if err != api.OK {
			wantDigest(t, string(s), d, err, api.Digest{}, api.ErrBytes)
			continue
		}
		if again := digest.Hex(d); again != string(s) {
			t.Errorf("%q was read and written as %q", s, again)
		}
		if other, ok := seen[d]; ok && other != string(s) {
			t.Errorf("%q and %q are read as one", other, s)
		}
		seen[d] = string(s)
	}
}

// Memory

const (
	spare = 0xa5
	ink   = 0x5a
)

// fill overwrites a list, with its spare room.
func fill(l []byte, n byte) {
	l = l[:cap(l)]
	for i := range l {
		l[i] = n
	}
}

// roomy copies bytes into a list with marked room behind it.
func roomy(l []byte) []byte {
	b := make([]byte, len(l)+100)
	fill(b, spare)
	copy(b, l)
	return b[:len(l)]
}

func roomyTexts(l [][]byte) [][]byte {
	b := make([][]byte, len(l)+3)
	for i := range b {
		b[i] = []byte{spare}
		if i < len(l) {
			b[i] = roomy(l[i])
		}
	}
	return b[:len(l)]
}

func roomyTags(l []string) []string {
	b := slices.Repeat([]string{"room"}, len(l)+3)
	copy(b, l)
	return b[:len(l)]
}

// untouched tells whether a list is as it was, its marked room too.
func untouched(b, was []byte) bool {
	room := b[len(b):cap(b)]
	return bytes.Equal(b, was) && bytes.Count(room, []byte{spare}) == len(room)
}

func textsUntouched(b, was [][]byte) bool {
	ok := slices.EqualFunc(b, was, untouched)
	for _, l := range b[len(b):cap(b)] {
		ok = ok && bytes.Equal(l, []byte{spare})
	}
	return ok
}

func tagsUntouched(b, was []string) bool {
	ok := slices.Equal(b, was)
	for _, s := range b[len(b):cap(b)] {
		ok = ok && s == "room"
	}
	return ok
}

// TestMemoryOfBytes: bytes stay as they were, what lies behind them is not read, and an answer does not follow what
// is done to them later.
func TestMemoryOfBytes(t *testing.T) {
	r := rand.New(rand.NewSource(15))
	for size := range 200 {
		was := drawn(r, size)
		b := roomy(was)
		d, tag := digest.Sum(b), digest.Tag(b)
		if !untouched(b, was) {
			t.Fatalf("%x was changed", was)
		}
		kept := strings.Clone(tag)
		fill(b, ink)
		if d != sum(was) || tag != kept || tag != digits(d[:16]) {
			t.Errorf("%x: %x and %q", was, d, tag)
		}
	}
}

func TestMemoryOfTexts(t *testing.T) {
	r := rand.New(rand.NewSource(16))
	for _, n := range []int{0, 1, 2, 33, mostTexts, mostTexts + 1} {
		was := drawnTexts(r, n)
		l := roomyTexts(was)
		wanted, wantedErr := ofTexts(was), api.OK
		if n > mostTexts {
			wanted, wantedErr = api.Digest{}, api.ErrLong
		}
		d, err := digest.Of(l)
		wantDigest(t, fmt.Sprint(n, " texts"), d, err, wanted, wantedErr)
		if !textsUntouched(l, was) {
			t.Errorf("%d texts were changed", n)
		}
	}
}

func TestMemoryOfTags(t *testing.T) {
	r := rand.New(rand.NewSource(17))
	for _, n := range []int{0, 1, 2, mostTags, mostTags + 1} {
		for _, wrong := range []bool{false, true} {
			was := drawnTags(r, n)
			if wrong && n > 0 {
				was[n-1] = "x"
			}
			l := roomyTags(was)
			s, err := digest.Tags(l)
			kept := strings.Clone(s)
			if !tagsUntouched(l, was) {
				t.Errorf("%d tags were changed", n)
			}
			for i := range l {
				l[i] = "ink"
			}
			again, errAgain := digest.Tags(was)
			wantText(t, fmt.Sprint(was), again, errAgain, kept, err)
			wantText(t, fmt.Sprint(was), s, err, kept, errAgain)
		}
	}
}

// TestMemoryOfDigests: an answer is a digest of its own, whatever is done to it.
func TestMemoryOfDigests(t *testing.T) {
	s := strings.Repeat("0f", 32)
	d, _ := digest.Read(s)
	fill(d[:], ink)
	again, err := digest.Read(s)
	wantDigest(t, s, again, err, api.Digest(bytes.Repeat([]byte{15}, 32)), api.OK)
	text := digest.Hex(again)
	fill(again[:], ink)
	if text != s {
		t.Errorf("%q; want %q", text, s)
	}
	first := digest.Sum(nil)
	fill(first[:], ink)
	if d := digest.Sum(nil); d != sum(nil) {
		t.Errorf("%x", d)
	}
}

// TestAnswersAreTheSame: what a call answers does not hang on those ahead of it, or beside it.
func TestAnswersAreTheSame(t *testing.T) {
	r := rand.New(rand.NewSource(18))
	texts := drawnTexts(r, 50)
	done := make(chan []api.Digest)
	for range 4 {
		go func() {
			var l []api.Digest
			for _, b := range texts {
				digest.Tags([]string{"x"})
				l = append(l, digest.Sum(b))
			}
			done <- l
		}()
	}
	for range 4 {
		for i, d := range <-done {
			wantDigest(t, fmt.Sprintf("%x", texts[i]), d, api.OK, sum(texts[i]), api.OK)
		}
	}
}
