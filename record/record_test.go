package record_test

import (
	"bytes"
	"encoding/binary"
	"fmt"
	"math"
	"math/big"
	"math/rand"
	"reflect"
	"regexp"
	"slices"
	"strings"
	"testing"

	"stowage/api"
	"stowage/record"
)

const (
	maxUint = 1 << 40
	maxText = 65536
	maxNow  = 1048576
	maxSize = 65536
	sumLen  = 32
)

// wild are numbers that hardly any field may have, those with which sums wrap round among them.
var wild = []int{-1, -2, -16, -128, -65536, math.MinInt, math.MinInt + 1, math.MinInt32, math.MaxInt32, math.MaxInt - 1,
	math.MaxInt, 1 << 62, 1<<62 + 1, -1 << 62, 1 << 32, 1<<32 + 1, maxUint, maxUint + 1}

var (
	anID       = regexp.MustCompile(`\A[0-9a-z]{1,32}\z`)
	aTag       = regexp.MustCompile(`\A[0-9a-f-]{1,40}\z`)
	aDataName  = regexp.MustCompile(`\A[0-9a-f]{32}\z`)
	digits     = "0123456789abcdef"
	idLetters  = "0123456789abcdefghijklmnopqrstuvwxyz"
	tagLetters = digits + "-"
)

// mayBe tells whether a record may be, as the document says it.
func mayBe(r api.Record) bool {
	if !anID.MatchString(r.ID) || r.Time < 0 || r.Time > maxNow {
		return false
	}
	if r.Mark {
		return r.Size == 0 && r.ETag == "" && r.K == 0 && r.M == 0 && r.Data == "" && r.Sum == api.Digest{} &&
			len(r.Parts) == 0 && r.Up == ""
	}
	if r.Size < 0 || r.Size > maxSize || !aTag.MatchString(r.ETag) || r.K < 1 || r.K > 16 || r.M < 1 || r.M > 16 ||
		r.K+r.M > 16 || !aDataName.MatchString(r.Data) || r.Up != "" && !anID.MatchString(r.Up) || len(r.Parts) > 32 {
		return false
	}
	sum := new(big.Int)
	for i, p := range r.Parts {
		if p.Number < 1 || p.Number > 10000 || p.Size < 0 || i > 0 && p.Number <= r.Parts[i-1].Number {
			return false
		}
		sum.Add(sum, big.NewInt(int64(p.Size)))
	}
	return len(r.Parts) == 0 || sum.Cmp(big.NewInt(int64(r.Size))) == 0
}

// same tells whether two records are the same, nil and empty lists being one.
func same(a, b api.Record) bool {
	if len(a.Parts) == 0 && len(b.Parts) == 0 {
		a.Parts, b.Parts = nil, nil
	}
	return reflect.DeepEqual(a, b)
}

// numberOf and textOf are the bytes of a number and of a text, whether they may be or not.
func numberOf(n int) []byte { return binary.AppendUvarint(nil, uint64(n)) }

func textOf(s string) []byte { return append(numberOf(len(s)), s...) }

// bytesOf lays a record as the document says it, whether it may be or not.
func bytesOf(r api.Record) []byte {
	if r.Mark {
		return slices.Concat(textOf(r.ID), numberOf(r.Time), []byte{1})
	}
	b := slices.Concat(textOf(r.ID), numberOf(r.Time), []byte{0}, numberOf(r.Size), textOf(r.ETag), numberOf(r.K),
		numberOf(r.M), textOf(r.Data), r.Sum[:], numberOf(len(r.Parts)))
	for _, p := range r.Parts {
		b = slices.Concat(b, numberOf(p.Number), numberOf(p.Size))
	}
	return append(b, textOf(r.Up)...)
}

// readNumber reads whatever number stands at the front, as the document says it: that one whose bytes these are.
func readNumber(b []byte) (int, []byte, bool) {
	n, length := binary.Uvarint(b)
	if length <= 0 || n > maxUint || !bytes.HasPrefix(b, numberOf(int(n))) {
		return 0, nil, false
	}
	return int(n), b[len(numberOf(int(n))):], true
}

func readText(b []byte) (string, []byte, bool) {
	n, rest, ok := readNumber(b)
	if !ok || n > maxText || n > len(rest) {
		return "", nil, false
	}
	return string(rest[:n]), rest[n:], true
}

// readRecord reads without heed, and then asks whether there is a record that may be whose bytes these are.
func readRecord(b []byte) (api.Record, []byte, bool) {
	var r api.Record
	left := b
	number := func() (n int) { n, left, _ = readNumber(left); return n }
	text := func() (s string) { s, left, _ = readText(left); return s }
	r.ID, r.Time = text(), number()
	r.Mark = bytes.HasPrefix(left, []byte{1})
	if !r.Mark {
		left = left[min(1, len(left)):]
		r.Size, r.ETag, r.K, r.M, r.Data = number(), text(), number(), number(), text()
		left = left[copy(r.Sum[:], left):]
		for range min(number(), 99) {
			r.Parts = append(r.Parts, api.PartSize{Number: number(), Size: number()})
		}
		r.Up = text()
	}
	if wanted := bytesOf(r); mayBe(r) && bytes.HasPrefix(b, wanted) {
		return r, b[len(wanted):], true
	}
	return api.Record{}, nil, false
}

// mark and plain are records that may be; whole is one with all that one may have.
func mark() api.Record { return api.Record{ID: "null", Time: 5, Mark: true} }

func plain() api.Record {
	return api.Record{ID: "0", Size: 3, ETag: "a", K: 1, M: 1, Data: strings.Repeat("0", 32)}
}

func whole() api.Record {
	r := api.Record{ID: "0123456789abcdefghijklmnopqrstuv", Time: maxNow, Size: maxSize, ETag: strings.Repeat("f-", 20),
		K: 12, M: 4, Data: "0123456789abcdeffedcba9876543210", Up: "zyxwvutsrqponmlkjihgfedcba987654"}
	for i := range r.Sum {
		r.Sum[i] = byte(250 + 3*i)
	}
	for i := range 31 {
		r.Parts = append(r.Parts, api.PartSize{Number: 1 + 129*i, Size: 2 * i})
	}
	r.Parts = append(r.Parts, api.PartSize{Number: 10000, Size: maxSize - 31*30})
	return r
}

// partly is one with few parts, so that all of its bytes can be gone through.
func partly() api.Record {
	r := plain()
	r.ID, r.Time, r.Size, r.ETag, r.Up = "b7", 300, 200, "0f-2", "u1"
	r.Sum = api.Digest{0: 1, 31: 255}
	r.Parts = []api.PartSize{{Number: 2, Size: 0}, {Number: 200, Size: 200}}
	return r
}

func kinds() []api.Record { return []api.Record{mark(), plain(), partly(), whole()} }

// with is a record of which something is changed.
func with(r api.Record, change func(r *api.Record)) api.Record {
	r.Parts = slices.Clone(r.Parts)
	change(&r)
	return r
}

// drawnText draws a text of 1 to most letters.
func drawnText(r *rand.Rand, letters string, most int) string {
	s := make([]byte, 1+r.Intn(most))
	for i := range s {
		s[i] = letters[r.Intn(len(letters))]
	}
	return string(s)
}

// drawn draws a record that may be.
func drawn(r *rand.Rand) api.Record {
	v := api.Record{ID: drawnText(r, idLetters, 32), Time: r.Intn(maxNow + 1)}
	if r.Intn(4) == 0 {
		v.Mark = true
		return v
	}
	v.ETag = drawnText(r, tagLetters, 40)
	v.K = 1 + r.Intn(15)
	v.M = 1 + r.Intn(16-v.K)
	v.Data = strings.Repeat(drawnText(r, digits, 1), 31) + drawnText(r, digits, 1)
	r.Read(v.Sum[:])
	number := 0
	for range r.Intn(4) * r.Intn(11) {
		number += 1 + r.Intn(300)
		v.Parts = append(v.Parts, api.PartSize{Number: number, Size: r.Intn(1 << r.Intn(12))})
	}
	if len(v.Parts) == 0 {
		v.Size = r.Intn(maxSize + 1)
	}
	for _, p := range v.Parts {
		v.Size += p.Size
	}
	if r.Intn(2) == 0 {
		v.Up = drawnText(r, idLetters, 32)
	}
	return v
}

// askCheck holds Check against the document's words; Bytes goes by it.
func askCheck(t *testing.T, what string, r api.Record) {
	t.Helper()
	wanted := api.ErrArg
	if mayBe(r) {
		wanted = api.OK
	}
	if err := record.Check(r); err != wanted {
		t.Errorf("Check, %s: %d; want %d: %+v", what, err, wanted, r)
	}
	b, err := record.Bytes(r)
	if wanted == api.OK {
		wantBytes(t, what, b, err, bytesOf(r), api.OK)
	} else {
		wantBytes(t, what, b, err, nil, api.ErrArg)
	}
}

func wantCheck(t *testing.T, what string, r api.Record, wanted api.Errno) {
	t.Helper()
	if err := record.Check(r); err != wanted {
		t.Errorf("Check, %s: %d; want %d: %+v", what, err, wanted, r)
	}
	askCheck(t, what, r)
}

func short(b []byte) string {
	if len(b) > 400 {
		return fmt.Sprintf("%d bytes, %x..", len(b), b[:400])
	}
	return fmt.Sprintf("%x", b)
}

func wantBytes(t *testing.T, what string, b []byte, err api.Errno, wanted []byte, wantedErr api.Errno) {
	t.Helper()
	if !bytes.Equal(b, wanted) || err != wantedErr {
		t.Errorf("%s: %s, %d; want %s, %d", what, short(b), err, short(wanted), wantedErr)
	}
}

// askNumber, askText and askRead hold what is read against the document's words, and what is read, written again,
// against what was read.
func askNumber(t *testing.T, b []byte) {
	t.Helper()
	wanted, wantedRest, ok := readNumber(b)
	n, rest, err := record.ReadUint(b)
	if n != wanted || !bytes.Equal(rest, wantedRest) || ok != (err == api.OK) || !ok && err != api.ErrBytes {
		t.Errorf("ReadUint(%s): %d, %s, %d; want %d, %s, %v", short(b), n, short(rest), err, wanted, short(wantedRest), ok)
		return
	}
	if ok {
		again, err := record.Uint(n)
		wantBytes(t, "a number, read and written", append(again, rest...), err, b, api.OK)
	}
}

func askText(t *testing.T, b []byte) {
	t.Helper()
	wanted, wantedRest, ok := readText(b)
	s, rest, err := record.ReadText(b)
	if s != wanted || !bytes.Equal(rest, wantedRest) || ok != (err == api.OK) || !ok && err != api.ErrBytes {
		t.Errorf("ReadText(%s): %d bytes, %s, %d; want %d bytes, %s, %v", short(b), len(s), short(rest), err, len(wanted),
			short(wantedRest), ok)
		return
	}
	if ok {
		again, err := record.Text(s)
		wantBytes(t, "a text, read and written", append(again, rest...), err, b, api.OK)
	}
}

func askRead(t *testing.T, b []byte) {
	t.Helper()
	wanted, wantedRest, ok := readRecord(b)
	r, rest, err := record.Read(b)
	if !same(r, wanted) || !bytes.Equal(rest, wantedRest) || ok != (err == api.OK) || !ok && err != api.ErrBytes {
		t.Errorf("Read(%s): %+v, %s, %d; want %+v, %s, %v", short(b), r, short(rest), err, wanted, short(wantedRest), ok)
		return
	}
	if ok {
		again, err := record.Bytes(r)
		wantBytes(t, "a record, read and written", append(again, rest...), err, b, api.OK)
	}
}

func wantRead(t *testing.T, what string, b []byte, wanted api.Record, wantedRest []byte) {
	t.Helper()
	r, rest, err := record.Read(b)
	if !same(r, wanted) || !bytes.Equal(rest, wantedRest) || err != api.OK {
		t.Errorf("Read, %s: %+v, %s, %d; want %+v, %s", what, r, short(rest), err, wanted, short(wantedRest))
	}
	askRead(t, b)
}

func wantNoRead(t *testing.T, what string, b []byte) {
	t.Helper()
	r, rest, err := record.Read(b)
	if !same(r, api.Record{}) || len(rest) != 0 || err != api.ErrBytes {
		t.Errorf("Read, %s: %+v, %s, %d; want none, %d", what, r, short(rest), err, api.ErrBytes)
	}
	askRead(t, b)
}

// P7.1

func TestCheckKnown(t *testing.T) {
	for i, r := range kinds() {
		wantCheck(t, fmt.Sprint("kind ", i), r, api.OK)
	}
	wantCheck(t, "zero", api.Record{}, api.ErrArg)
	wantCheck(t, "a mark alone", api.Record{Mark: true}, api.ErrArg)
	wantCheck(t, "ID A", with(mark(), func(r *api.Record) { r.ID = "A" }), api.ErrArg)
	wantCheck(t, "a mark with a size", with(mark(), func(r *api.Record) { r.Size = 1 }), api.ErrArg)
	wantCheck(t, "K 0", with(plain(), func(r *api.Record) { r.K = 0 }), api.ErrArg)
	wantCheck(t, "a mark that is none", with(mark(), func(r *api.Record) { r.Mark = false }), api.ErrArg)
	for i, r := range kinds()[1:] {
		wantCheck(t, fmt.Sprint("a mark with all of kind ", i+1), with(r, func(r *api.Record) { r.Mark = true }), api.ErrArg)
	}
}

// textFields are those fields that are texts, with a setter each, and how long they may be.
func textFields() []struct {
	name        string
	least, most int
	letters     string
	set         func(r *api.Record, s string)
} {
	return []struct {
		name        string
		least, most int
		letters     string
		set         func(r *api.Record, s string)
	}{
		{"ID", 1, 32, idLetters, func(r *api.Record, s string) { r.ID = s }},
		{"ETag", 1, 40, tagLetters, func(r *api.Record, s string) { r.ETag = s }},
		{"Data", 32, 32, digits, func(r *api.Record, s string) { r.Data = s }},
		{"Up", 0, 32, idLetters, func(r *api.Record, s string) { r.Up = s }},
	}
}

func TestCheckLengths(t *testing.T) {
	for _, f := range textFields() {
		for length := range 100 {
			wanted := api.ErrArg
			if f.least <= length && length <= f.most {
				wanted = api.OK
			}
			for i, r := range kinds()[1:] {
				s := strings.Repeat("7", length)
				wantCheck(t, fmt.Sprint(f.name, " of ", length, " in kind ", i), with(r, func(r *api.Record) { f.set(r, s) }), wanted)
			}
		}
		for _, length := range []int{256, 288, 1 << 16, 1<<16 + 32, 1 << 20} {
			wantCheck(t, fmt.Sprint(f.name, " of ", length), with(plain(), func(r *api.Record) { f.set(r, strings.Repeat("7", length)) }), api.ErrArg)
		}
	}
	for length := range 40 {
		wanted := api.ErrArg
		if 1 <= length && length <= 32 {
			wanted = api.OK
		}
		wantCheck(t, fmt.Sprint("a mark's ID of ", length), with(mark(), func(r *api.Record) { r.ID = strings.Repeat("z", length) }), wanted)
	}
}

func TestCheckEachByte(t *testing.T) {
	for _, f := range textFields() {
		for _, length := range []int{1, 2, 3, f.most} {
			if length < f.least {
				continue
			}
			for c := range 256 {
				wanted := api.ErrArg
				if strings.IndexByte(f.letters, byte(c)) >= 0 {
					wanted = api.OK
				}
				for place := range length {
					s := []byte(strings.Repeat("a", length))
					s[place] = byte(c)
					wantCheck(t, fmt.Sprintf("%s %q", f.name, s), with(plain(), func(r *api.Record) { f.set(r, string(s)) }), wanted)
				}
			}
		}
	}
	for c := range 256 {
		askCheck(t, fmt.Sprint("a mark's ID of byte ", c), with(mark(), func(r *api.Record) { r.ID = string([]byte{byte(c)}) }))
	}
}

func TestCheckOddTexts(t *testing.T) {
	for _, s := range []string{"é", "٣", "ａ", "aé", "0\x00", "a\n", " a", "a ", "\xff", "\xed\xa0\x80", "a/b", "A", "nULL", "a.b", "0x1", "+1", "a_b", "g", "a-"} {
		for _, f := range textFields() {
			askCheck(t, fmt.Sprintf("%s %q", f.name, s), with(plain(), func(r *api.Record) { f.set(r, s) }))
			if len(s) <= 32 {
				long := s + strings.Repeat("0", 32-len(s))
				askCheck(t, fmt.Sprintf("%s %q", f.name, long), with(plain(), func(r *api.Record) { f.set(r, long) }))
			}
		}
	}
}

func TestCheckTimes(t *testing.T) {
	for _, n := range []int{0, 1, 127, 128, maxNow - 1, maxNow} {
		for _, r := range kinds() {
			wantCheck(t, fmt.Sprint("Time ", n), with(r, func(r *api.Record) { r.Time = n }), api.OK)
		}
	}
	for _, n := range append([]int{maxNow + 1, maxNow + 2, 2 * maxNow}, wild...) {
		for _, r := range kinds() {
			wantCheck(t, fmt.Sprint("Time ", n), with(r, func(r *api.Record) { r.Time = n }), api.ErrArg)
		}
	}
}

func TestCheckSizes(t *testing.T) {
	alone := func(n int) func(r *api.Record) {
		return func(r *api.Record) { r.Size, r.Parts = n, []api.PartSize{{Number: 1, Size: n}} }
	}
	for _, n := range []int{0, 1, 127, 128, maxSize - 1, maxSize} {
		wantCheck(t, fmt.Sprint("Size ", n), with(plain(), func(r *api.Record) { r.Size = n }), api.OK)
		wantCheck(t, fmt.Sprint("Size and a part ", n), with(plain(), alone(n)), api.OK)
	}
	for _, n := range append([]int{maxSize + 1, maxSize + 2, 2 * maxSize}, wild...) {
		wantCheck(t, fmt.Sprint("Size ", n), with(plain(), func(r *api.Record) { r.Size = n }), api.ErrArg)
		wantCheck(t, fmt.Sprint("Size and a part ", n), with(plain(), alone(n)), api.ErrArg)
	}
}

func TestCheckShards(t *testing.T) {
	numbers := wild
	for n := range 35 {
		numbers = append(slices.Clip(numbers), n)
	}
	for _, k := range numbers {
		for _, m := range numbers {
			wanted := api.ErrArg
			if 1 <= k && k <= 15 && 1 <= m && m <= 15 && k+m <= 16 {
				wanted = api.OK
			}
			wantCheck(t, fmt.Sprint("K and M ", k, m), with(plain(), func(r *api.Record) { r.K, r.M = k, m }), wanted)
		}
	}
}

// parted is a record with these parts, its size being what they are together.
func parted(parts ...api.PartSize) api.Record {
	r := plain()
	r.Size, r.Parts = 0, parts
	for _, p := range parts {
		r.Size += p.Size
	}
	return r
}

func TestCheckCounts(t *testing.T) {
	for count := range 70 {
		wanted := api.OK
		if count > 32 {
			wanted = api.ErrArg
		}
		for _, size := range []int{0, 1, 900} {
			var parts []api.PartSize
			for i := range count {
				parts = append(parts, api.PartSize{Number: i + 1, Size: size})
			}
			wantCheck(t, fmt.Sprint(count, " parts"), parted(parts...), wanted)
		}
	}
	wantCheck(t, "empty parts", with(plain(), func(r *api.Record) { r.Parts = []api.PartSize{} }), api.OK)
	wantCheck(t, "empty parts of a mark", with(mark(), func(r *api.Record) { r.Parts = []api.PartSize{} }), api.OK)
}

func TestCheckNumbersOfParts(t *testing.T) {
	numbers := append([]int{0, 1, 2, 3, 9999, 10000, 10001, 10002, 20000, 65536}, wild...)
	for _, a := range numbers {
		askCheck(t, fmt.Sprint("number ", a), parted(api.PartSize{Number: a, Size: 1}))
		for _, b := range numbers {
			askCheck(t, fmt.Sprint("numbers ", a, b), parted(api.PartSize{Number: a, Size: 1}, api.PartSize{Number: b, Size: 1}))
			askCheck(t, fmt.Sprint("numbers ", a, 5, b), parted(api.PartSize{Number: a}, api.PartSize{Number: 5}, api.PartSize{Number: b}))
		}
	}
	for n, wanted := range map[int]api.Errno{0: api.ErrArg, 1: api.OK, 10000: api.OK, 10001: api.ErrArg} {
		wantCheck(t, fmt.Sprint("number ", n), parted(api.PartSize{Number: n, Size: 1}), wanted)
	}
	wantCheck(t, "numbers that stand still", parted(api.PartSize{Number: 3, Size: 1}, api.PartSize{Number: 3, Size: 1}), api.ErrArg)
	wantCheck(t, "numbers that fall", parted(api.PartSize{Number: 3, Size: 1}, api.PartSize{Number: 2, Size: 1}), api.ErrArg)
	for i := range 31 {
		still, fall := whole(), whole()
		still.Parts[i+1].Number = still.Parts[i].Number
		fall.Parts[i].Number, fall.Parts[i+1].Number = fall.Parts[i+1].Number, fall.Parts[i].Number
		wantCheck(t, fmt.Sprint("part ", i, " stands still"), still, api.ErrArg)
		wantCheck(t, fmt.Sprint("part ", i, " falls"), fall, api.ErrArg)
	}
}

func TestCheckSizesOfParts(t *testing.T) {
	sizes := append([]int{0, 1, 2, 3, 4, maxSize - 1, maxSize, maxSize + 1}, wild...)
	for _, a := range sizes {
		for _, b := range sizes {
			for _, size := range []int{0, 1, 3, maxSize, a, b, a + b} {
				r := parted(api.PartSize{Number: 1, Size: a}, api.PartSize{Number: 2, Size: b})
				r.Size = size
				askCheck(t, fmt.Sprint("sizes ", a, b, " of ", size), r)
			}
		}
	}
	for i := range 32 {
		for _, by := range []int{-1, 1} {
			r := whole()
			r.Parts[i].Size += by
			wantCheck(t, fmt.Sprint("part ", i, " by ", by), r, api.ErrArg)
		}
	}
	wantCheck(t, "a part less", with(whole(), func(r *api.Record) { r.Parts = r.Parts[:31] }), api.ErrArg)
	wantCheck(t, "parts of nothing", with(plain(), func(r *api.Record) { r.Parts = []api.PartSize{{Number: 1}} }), api.ErrArg)
	wantCheck(t, "one below 0", parted(api.PartSize{Number: 1, Size: 5}, api.PartSize{Number: 2, Size: -2}), api.ErrArg)
}

// TestCheckSumsThatWrapRound: sizes whose sum, as numbers of the machine are added, is Size.
func TestCheckSumsThatWrapRound(t *testing.T) {
	for _, sizes := range [][]int{
		{math.MaxInt, math.MaxInt, 5}, {5, math.MaxInt, math.MaxInt}, {math.MaxInt, 5, math.MaxInt},
		{1 << 62, 1 << 62, 1 << 62, 1<<62 + 3}, {math.MaxInt, math.MaxInt, 2}, {3, math.MaxInt, math.MaxInt, 2},
		{math.MinInt, math.MinInt, 3}, {math.MaxInt, math.MinInt, 4}, {3, math.MinInt, math.MinInt},
	} {
		var parts []api.PartSize
		for i, size := range sizes {
			parts = append(parts, api.PartSize{Number: i + 1, Size: size})
		}
		r := parted(parts...)
		if r.Size < 0 || r.Size > maxSize {
			t.Errorf("%v do not wrap round", sizes)
		}
		wantCheck(t, fmt.Sprint("sizes ", sizes), r, api.ErrArg)
	}
}

// changes are those by which a record differs in one field from what it was.
func changes() map[string]func(r *api.Record) {
	all := map[string]func(r *api.Record){
		"ID":         func(r *api.Record) { r.ID += "0" },
		"Time":       func(r *api.Record) { r.Time++ },
		"Mark":       func(r *api.Record) { r.Mark = !r.Mark },
		"Size":       func(r *api.Record) { r.Size++ },
		"ETag":       func(r *api.Record) { r.ETag += "0" },
		"K":          func(r *api.Record) { r.K++ },
		"M":          func(r *api.Record) { r.M++ },
		"Data":       func(r *api.Record) { r.Data += "0" },
		"Up":         func(r *api.Record) { r.Up += "0" },
		"one more":   func(r *api.Record) { r.Parts = append(slices.Clip(r.Parts), api.PartSize{}) },
		"one ahead":  func(r *api.Record) { r.Parts = append([]api.PartSize{{}}, r.Parts...) },
		"Size below": func(r *api.Record) { r.Size = -r.Size - 1 },
	}
	for i := range sumLen {
		all[fmt.Sprint("Sum ", i)] = func(r *api.Record) { r.Sum[i] ^= 128 }
	}
	return all
}

func TestCheckMarksWithMore(t *testing.T) {
	for name, change := range changes() {
		wanted := api.ErrArg
		if name == "ID" || name == "Time" {
			wanted = api.OK
		}
		wantCheck(t, "a mark with another "+name, with(mark(), change), wanted)
	}
	for _, n := range wild {
		for _, change := range []func(r *api.Record){
			func(r *api.Record) { r.Size = n }, func(r *api.Record) { r.K = n }, func(r *api.Record) { r.M = n },
			func(r *api.Record) { r.Parts = []api.PartSize{{Number: n}} }, func(r *api.Record) { r.Parts = []api.PartSize{{Size: n}} },
		} {
			wantCheck(t, fmt.Sprint("a mark with ", n), with(mark(), change), api.ErrArg)
		}
	}
	wantCheck(t, "a mark of parts", with(mark(), func(r *api.Record) { r.Parts = []api.PartSize{{Number: 1}} }), api.ErrArg)
}

func TestCheckDrawn(t *testing.T) {
	r := rand.New(rand.NewSource(71))
	for range 3000 {
		v := drawn(r)
		wantCheck(t, "drawn", v, api.OK)
		for name, change := range changes() {
			askCheck(t, name, with(v, change))
		}
	}
}

func wantSame(t *testing.T, what string, a, b api.Record, wanted bool) {
	t.Helper()
	if record.Same(a, b) != wanted || record.Same(b, a) != wanted {
		t.Errorf("Same, %s: %v, %v; want %v: %+v, %+v", what, record.Same(a, b), record.Same(b, a), wanted, a, b)
	}
}

// odd are records that may not be.
func odd() []api.Record {
	return []api.Record{{}, {Mark: true}, {ID: "A", Time: -1, Mark: true, Size: 7, ETag: "é", K: -1, M: math.MaxInt, Data: "\xff", Up: "/"},
		{Parts: make([]api.PartSize, 40)}, {ID: strings.Repeat("x", 1000), Parts: []api.PartSize{{Number: 3, Size: -1}, {Number: math.MinInt}}}}
}

func TestSame(t *testing.T) {
	all := append(kinds(), odd()...)
	for i, a := range all {
		for j, b := range all {
			wantSame(t, fmt.Sprint(i, j), a, b, i == j)
		}
		// The same texts and parts, in other memory.
		b := a
		b.ID, b.ETag, b.Data, b.Up = strings.Clone(a.ID), strings.Clone(a.ETag), strings.Clone(a.Data), strings.Clone(a.Up)
		b.Parts = slices.Clone(a.Parts)
		wantSame(t, fmt.Sprint(i, " in other memory"), a, b, true)
		for name, change := range changes() {
			wantSame(t, fmt.Sprint(i, " but ", name), a, with(a, change), false)
		}
		for p := range a.Parts {
			wantSame(t, fmt.Sprint(i, " but the number of ", p), a, with(a, func(r *api.Record) { r.Parts[p].Number++ }), false)
			wantSame(t, fmt.Sprint(i, " but the size of ", p), a, with(a, func(r *api.Record) { r.Parts[p].Size-- }), false)
			wantSame(t, fmt.Sprint(i, " up to ", p), a, with(a, func(r *api.Record) { r.Parts = r.Parts[:p] }), false)
			wantSame(t, fmt.Sprint(i, " without ", p), with(a, func(r *api.Record) { r.Parts = slices.Delete(r.Parts, p, p+1) }), a, false)
		}
	}
	none, empty := plain(), plain()
	none.Parts, empty.Parts = nil, []api.PartSize{}
	wantSame(t, "nil and empty", none, empty, true)
	a := parted(api.PartSize{Number: 1, Size: 2}, api.PartSize{Number: 2, Size: 1})
	b := parted(api.PartSize{Number: 2, Size: 1}, api.PartSize{Number: 1, Size: 2})
	wantSame(t, "parts in another order", a, b, false)
	// Texts that are the same one behind the other, but not field by field.
	wantSame(t, "texts", api.Record{ID: "ab", ETag: "c"}, api.Record{ID: "a", ETag: "bc"}, false)
	wantSame(t, "K and M", api.Record{K: 1, M: 2}, api.Record{K: 2, M: 1}, false)
}

// TestSameLooksBehindNoLength: what is in the spare room of parts does not count.
func TestSameLooksBehindNoLength(t *testing.T) {
	a, b := partly(), partly()
	a.Parts = append(slices.Clone(a.Parts), api.PartSize{Number: 1})[:2]
	b.Parts = append(slices.Clone(b.Parts), api.PartSize{Number: 2})[:2]
	wantSame(t, "spare room", a, b, true)
}

func TestCopy(t *testing.T) {
	r := rand.New(rand.NewSource(72))
	all := append(kinds(), odd()...)
	for range 300 {
		all = append(all, drawn(r))
	}
	for i, a := range all {
		was := with(a, func(*api.Record) {})
		b := record.Copy(a)
		if !same(a, was) || !same(b, was) || !record.Same(a, b) {
			t.Errorf("Copy of %d: %+v; want %+v", i, b, was)
		}
		for p := range b.Parts {
			b.Parts[p] = api.PartSize{Number: -7, Size: -8}
		}
		if !same(a, was) {
			t.Errorf("Copy of %d: a change of it changes what it was made of", i)
		}
		b = record.Copy(a)
		for p := range a.Parts {
			a.Parts[p] = api.PartSize{Number: -7, Size: -8}
		}
		if !same(b, was) {
			t.Errorf("Copy of %d follows what it was made of", i)
		}
	}
}

// marked is what stands in spare room.
var marked = api.PartSize{Number: 77, Size: 78}

// roomyParts is a record whose parts have spare room, which is marked.
func roomyParts(r api.Record) api.Record {
	room := slices.Concat(r.Parts, slices.Repeat([]api.PartSize{marked}, 50))
	r.Parts = room[:len(r.Parts):len(room)]
	return r
}

// untouchedParts tells whether a record is as it was, and its spare room, too.
func untouchedParts(r, was api.Record) bool {
	for _, p := range r.Parts[:cap(r.Parts)][len(r.Parts):] {
		if p != marked {
			return false
		}
	}
	return same(r, was)
}

func TestCopyKeepsToItsRoom(t *testing.T) {
	for i, was := range append(kinds(), odd()...) {
		a := roomyParts(was)
		b := record.Copy(a)
		all := b.Parts[:cap(b.Parts)]
		if slices.Contains(all[len(b.Parts):], marked) {
			t.Errorf("Copy of %d hands out spare room", i)
		}
		for p := range all {
			all[p] = api.PartSize{Number: -1}
		}
		_ = append(b.Parts, api.PartSize{Number: -1})
		if !untouchedParts(a, was) {
			t.Errorf("Copy of %d shares its room", i)
		}
	}
}

// P7.2

func TestUintKnown(t *testing.T) {
	for n, wanted := range map[int][]byte{
		0: {0}, 1: {1}, 126: {126}, 127: {127}, 128: {128, 1}, 129: {129, 1}, 255: {255, 1}, 256: {128, 2}, 300: {172, 2},
		16383: {255, 127}, 16384: {128, 128, 1}, 1<<21 - 1: {255, 255, 127}, 1 << 21: {128, 128, 128, 1},
		1<<28 - 1: {255, 255, 255, 127}, 1 << 28: {128, 128, 128, 128, 1}, 1<<35 - 1: {255, 255, 255, 255, 127},
		1 << 35: {128, 128, 128, 128, 128, 1}, maxUint - 1: {255, 255, 255, 255, 255, 31}, maxUint: {128, 128, 128, 128, 128, 32},
	} {
		b, err := record.Uint(n)
		wantBytes(t, fmt.Sprintf("Uint(%d)", n), b, err, wanted, api.OK)
		for _, behind := range [][]byte{nil, {0}, {9}, {128}, {255, 255}} {
			all := append(slices.Clone(wanted), behind...)
			read, rest, err := record.ReadUint(all)
			if read != n || !bytes.Equal(rest, behind) || err != api.OK {
				t.Errorf("ReadUint(%x): %d, %x, %d; want %d, %x", all, read, rest, err, n, behind)
			}
		}
	}
}

func TestUintWrong(t *testing.T) {
	for _, n := range append(slices.Clone(wild), maxUint+2, maxUint+128, 2*maxUint, 1<<41, 1<<42, 1<<48, 1<<56, 1<<63-1, -127, -1<<40) {
		b, err := record.Uint(n)
		if 0 <= n && n <= maxUint {
			wantBytes(t, fmt.Sprintf("Uint(%d)", n), b, err, numberOf(n), api.OK)
		} else {
			wantBytes(t, fmt.Sprintf("Uint(%d)", n), b, err, nil, api.ErrArg)
		}
	}
}

func TestUintDrawn(t *testing.T) {
	r := rand.New(rand.NewSource(73))
	ask := func(n int) {
		b, err := record.Uint(n)
		wantBytes(t, fmt.Sprintf("Uint(%d)", n), b, err, numberOf(n), api.OK)
		askNumber(t, b)
		askNumber(t, append(b, byte(n), 200))
	}
	for n := range 40000 {
		ask(n)
		ask(r.Intn(maxUint+1) >> r.Intn(41))
		ask(maxUint - n)
	}
}

func TestReadUintWrong(t *testing.T) {
	for _, b := range [][]byte{
		nil, {}, {128}, {255}, {128, 128}, {128, 0}, {129, 0}, {255, 0}, {128, 128, 0}, {255, 255, 0}, {128, 128, 128, 128, 0},
		{128, 128, 128, 128, 128, 0}, {255, 255, 255, 255, 255, 0}, {128, 0, 1}, {128, 0, 128, 1},
		{129, 128, 128, 128, 128, 32}, {128, 129, 128, 128, 128, 32}, {128, 128, 128, 128, 129, 32}, {128, 128, 128, 128, 128, 33},
		{128, 128, 128, 128, 128, 64}, {255, 255, 255, 255, 255, 127}, {255, 255, 255, 255, 255, 32},
		{128, 128, 128, 128, 128, 128}, {128, 128, 128, 128, 128, 128, 0}, {128, 128, 128, 128, 128, 128, 1}, {129, 128, 128, 128, 128, 128, 0},
		{128, 128, 128, 128, 128, 160, 0}, {128, 128, 128, 128, 128, 160, 1}, {255, 255, 255, 255, 255, 255, 255, 127},
		{128, 128, 128, 128, 128, 128, 128, 128, 128, 1}, {128, 128, 128, 128, 128, 128, 128, 128, 128, 128, 1},
		bytes.Repeat([]byte{128}, 100), append(bytes.Repeat([]byte{128}, 9), 2), append(bytes.Repeat([]byte{128}, 63), 1),
		bytes.Repeat([]byte{255}, 1<<20),
	} {
		n, rest, err := record.ReadUint(b)
		if n != 0 || len(rest) != 0 || err != api.ErrBytes {
			t.Errorf("ReadUint(%s): %d, %s, %d; want none, %d", short(b), n, short(rest), err, api.ErrBytes)
		}
		askNumber(t, b)
		// What is no number stays none, whatever text it were the length of.
		askText(t, append(slices.Clone(b), make([]byte, 300)...))
	}
}

// TestReadUintOfManyBytes goes through all bytes of up to 7 that are made of those at which a number turns.
func TestReadUintOfManyBytes(t *testing.T) {
	letters := []byte{0, 1, 32, 33, 128, 129}
	level := [][]byte{nil}
	for range 7 {
		var next [][]byte
		for _, b := range level {
			askNumber(t, b)
			for _, c := range letters {
				next = append(next, append(slices.Clip(b), c))
			}
		}
		level = next
	}
	for _, b := range level {
		askNumber(t, b)
	}
	for a := range 256 {
		askNumber(t, []byte{byte(a)})
		for b := range 256 {
			askNumber(t, []byte{byte(a), byte(b)})
			askNumber(t, []byte{128, 255, 128, 255, byte(a), byte(b)})
			askNumber(t, []byte{128, 128, 128, 128, byte(a), byte(b), 1})
		}
	}
}

func TestReadUintOfBeginnings(t *testing.T) {
	for _, n := range []int{0, 1, 127, 128, 129, 16383, 16384, 1 << 21, 1 << 28, 1 << 35, maxUint - 1, maxUint} {
		b := numberOf(n)
		for length := range b {
			read, rest, err := record.ReadUint(b[:length])
			if read != 0 || len(rest) != 0 || err != api.ErrBytes {
				t.Errorf("ReadUint(%x): %d, %x, %d; want none, %d", b[:length], read, rest, err, api.ErrBytes)
			}
		}
		askNumber(t, b)
	}
}

var textLengths = []int{0, 1, 2, 126, 127, 128, 129, 255, 256, 300, 16383, 16384, 16385, 65535, 65536}

func TestText(t *testing.T) {
	r := rand.New(rand.NewSource(74))
	b, err := record.Text("ab")
	wantBytes(t, "ab", b, err, []byte{2, 'a', 'b'}, api.OK)
	for _, length := range textLengths {
		s := make([]byte, length)
		r.Read(s)
		b, err := record.Text(string(s))
		wantBytes(t, fmt.Sprint("a text of ", length), b, err, append(numberOf(length), s...), api.OK)
		for _, behind := range [][]byte{nil, {0}, {9, 128}, make([]byte, 70000)} {
			text, rest, err := record.ReadText(slices.Concat(b, behind))
			if text != string(s) || !bytes.Equal(rest, behind) || err != api.OK {
				t.Errorf("ReadText of %d: %d bytes, %s, %d", length, len(text), short(rest), err)
			}
			askText(t, slices.Concat(b, behind))
		}
	}
	for _, length := range []int{65537, 65538, 65664, 2 * 65536, 1 << 20} {
		b, err := record.Text(strings.Repeat("a", length))
		wantBytes(t, fmt.Sprint("a text of ", length), b, err, nil, api.ErrArg)
	}
	for c := range 256 {
		s := string([]byte{byte(c), 'x', byte(c)})
		b, err := record.Text(s)
		wantBytes(t, fmt.Sprintf("%q", s), b, err, []byte{3, byte(c), 'x', byte(c)}, api.OK)
		askText(t, b)
	}
}

func TestReadTextOfBeginnings(t *testing.T) {
	for _, length := range []int{0, 1, 2, 127, 128, 129, 300, 65535, 65536} {
		b := textOf(strings.Repeat("x", length))
		step := max(1, len(b)/400)
		for end := 0; end < len(b); end += step {
			askText(t, b[:end])
		}
		for _, end := range []int{1, 2, 3, len(b) - 2, len(b) - 1} {
			if end < 0 || end >= len(b) {
				continue
			}
			text, rest, err := record.ReadText(b[:end])
			if text != "" || len(rest) != 0 || err != api.ErrBytes {
				t.Errorf("ReadText of %d bytes of %d: %d, %s, %d", end, len(b), len(text), short(rest), err)
			}
		}
	}
}

func TestReadTextWrong(t *testing.T) {
	room := make([]byte, 200000)
	for _, b := range [][]byte{
		nil, {1}, {2, 'a'}, {128}, {128, 0}, {129, 0, 'a'}, {128, 1}, append(numberOf(128), room[:127]...),
		append(numberOf(65537), room...), append(numberOf(65538), room...), append(numberOf(100000), room...),
		append(numberOf(65537), room[:65536]...), append(numberOf(65537), room[:65537]...), append(numberOf(65536), room[:65535]...),
		append(numberOf(1<<32), room...), append(numberOf(1<<32+1), room...), append(numberOf(maxUint), room...), append(numberOf(maxUint+1), room...),
		append([]byte{129, 128, 0}, room...), append(bytes.Repeat([]byte{128}, 9), room...), numberOf(maxUint), numberOf(65537),
		append(binary.AppendUvarint(nil, math.MaxUint64), room...), append(binary.AppendUvarint(nil, 1<<63), room...),
		append(binary.AppendUvarint(nil, math.MaxUint64-1), 'a', 'b'),
	} {
		text, rest, err := record.ReadText(b)
		if text != "" || len(rest) != 0 || err != api.ErrBytes {
			t.Errorf("ReadText(%s): %d bytes, %s, %d; want none, %d", short(b), len(text), short(rest), err, api.ErrBytes)
		}
		askText(t, b)
	}
}

func TestReadTextDrawn(t *testing.T) {
	r := rand.New(rand.NewSource(75))
	for range 30000 {
		b := make([]byte, r.Intn(200))
		r.Read(b)
		if len(b) > 0 && r.Intn(2) == 0 {
			b[0] = byte(r.Intn(200))
		}
		askText(t, b)
		askNumber(t, b)
		askRead(t, b)
	}
}

// P7.3

func TestBytesKnown(t *testing.T) {
	b, err := record.Bytes(mark())
	wantBytes(t, "the mark null at 5", b, err, []byte{4, 'n', 'u', 'l', 'l', 5, 1}, api.OK)
	b, err = record.Bytes(plain())
	wantBytes(t, "plain", b, err, slices.Concat([]byte{1, '0', 0, 0, 3, 1, 'a', 1, 1, 32}, []byte(strings.Repeat("0", 32)), make([]byte, 32),
		[]byte{0, 0}), api.OK)
	sum := make([]byte, 32)
	sum[0], sum[31] = 1, 255
	b, err = record.Bytes(partly())
	wantBytes(t, "partly", b, err, slices.Concat([]byte{2, 'b', '7', 172, 2, 0, 200, 1, 4, '0', 'f', '-', '2', 1, 1, 32},
		[]byte(strings.Repeat("0", 32)), sum, []byte{2, 2, 0, 200, 1, 200, 1, 2, 'u', '1'}), api.OK)
	b, err = record.Bytes(whole())
	wantBytes(t, "whole", b, err, bytesOf(whole()), api.OK)
}

func TestBytesOfWhatMayNotBe(t *testing.T) {
	for i, r := range odd() {
		b, err := record.Bytes(r)
		wantBytes(t, fmt.Sprint("odd ", i), b, err, nil, api.ErrArg)
	}
	for _, r := range kinds() {
		for _, change := range changes() {
			askCheck(t, "changed", with(r, change))
		}
	}
}

func TestReadWithBytesBehind(t *testing.T) {
	wantRead(t, "the mark null at 5, and 9", []byte{4, 'n', 'u', 'l', 'l', 5, 1, 9}, mark(), []byte{9})
	r := rand.New(rand.NewSource(76))
	all := kinds()
	for range 500 {
		all = append(all, drawn(r))
	}
	for i, v := range all {
		b := bytesOf(v)
		other := all[r.Intn(len(all))]
		for _, behind := range [][]byte{nil, {0}, {1}, {9}, {128}, {255, 255}, b, bytesOf(other), make([]byte, 70000)[:r.Intn(70000)]} {
			wantRead(t, fmt.Sprint("record ", i), slices.Concat(b, behind), v, behind)
		}
	}
}

func TestReadOneBehindTheOther(t *testing.T) {
	r := rand.New(rand.NewSource(77))
	for range 50 {
		var wanted []api.Record
		var left []byte
		for range r.Intn(20) {
			v := drawn(r)
			b, err := record.Bytes(v)
			if err != api.OK {
				t.Fatal(err, v)
			}
			wanted, left = append(wanted, v), append(left, b...)
		}
		for i, v := range wanted {
			read, rest, err := record.Read(left)
			if !same(read, v) || err != api.OK {
				t.Fatalf("record %d: %+v, %d; want %+v", i, read, err, v)
			}
			left = rest
		}
		if len(left) != 0 {
			t.Errorf("%d bytes are left", len(left))
		}
	}
}

func TestReadOfBeginnings(t *testing.T) {
	wantNoRead(t, "none", nil)
	wantNoRead(t, "empty", []byte{})
	for i, r := range kinds() {
		b := bytesOf(r)
		for length := range b {
			wantNoRead(t, fmt.Sprint(length, " bytes of kind ", i), b[:length])
			// What was cut off stands in spare room still, unless the room is cut off, too.
			wantNoRead(t, fmt.Sprint(length, " bytes of kind ", i, " alone"), b[:length:length])
		}
		wantRead(t, fmt.Sprint("all bytes of kind ", i), b, r, nil)
	}
}

func TestReadOfTurnedBytes(t *testing.T) {
	for _, r := range kinds() {
		b := bytesOf(r)
		for place := range b {
			for mask := 1; mask < 256; mask++ {
				if len(b) > 200 && mask&(mask-1) != 0 && mask != 255 {
					continue
				}
				other := slices.Clone(b)
				other[place] ^= byte(mask)
				askRead(t, other)
			}
		}
	}
}

// TestReadOfPutInAndTakenOut: a byte more, or a byte less, at each place.
func TestReadOfPutInAndTakenOut(t *testing.T) {
	for _, r := range []api.Record{mark(), plain(), partly()} {
		b := bytesOf(r)
		for place := range len(b) + 1 {
			for _, c := range []byte{0, 1, 2, 32, '0', 'a', 128, 255} {
				askRead(t, slices.Insert(slices.Clone(b), place, c))
			}
			if place < len(b) {
				askRead(t, slices.Delete(slices.Clone(b), place, place+1))
			}
		}
	}
}

func TestReadOfEachKindOfByte(t *testing.T) {
	m, p := bytesOf(mark()), bytesOf(plain())
	for c := range 256 {
		m[6], p[3] = byte(c), byte(c)
		switch c {
		case 0:
			wantNoRead(t, "a mark that is none", m)
			wantRead(t, "no mark", p, plain(), nil)
		case 1:
			wantRead(t, "a mark", m, mark(), nil)
			wantRead(t, "a mark with more behind it", p, api.Record{ID: "0", Mark: true}, p[4:])
		default:
			wantNoRead(t, fmt.Sprint("a mark's byte ", c), m)
			wantNoRead(t, fmt.Sprint("a byte ", c), p)
			wantNoRead(t, fmt.Sprint("a byte ", c, " with more behind it"), slices.Concat(m, p))
		}
	}
}

// TestReadByHand: bytes of records that may not be.
func TestReadByHand(t *testing.T) {
	parts := func(l ...api.PartSize) func(r *api.Record) {
		return func(r *api.Record) { r.Parts = l }
	}
	many := func(n int) func(r *api.Record) {
		return func(r *api.Record) { *r = whole(); r.Parts = make([]api.PartSize, n); fillParts(r) }
	}
	for what, change := range map[string]func(r *api.Record){
		"no ID": func(r *api.Record) { r.ID = "" }, "a long ID": func(r *api.Record) { r.ID = strings.Repeat("a", 33) },
		"an ID A": func(r *api.Record) { r.ID = "A" }, "a very long ID": func(r *api.Record) { r.ID = strings.Repeat("a", 65537) },
		"a late time": func(r *api.Record) { r.Time = maxNow + 1 }, "a very late time": func(r *api.Record) { r.Time = maxUint },
		"a time beyond": func(r *api.Record) { r.Time = maxUint + 1 }, "a time below": func(r *api.Record) { r.Time = -1 },
		"a great size": func(r *api.Record) { r.Size = maxSize + 1 }, "the greatest size": func(r *api.Record) { r.Size = maxUint },
		"no tag": func(r *api.Record) { r.ETag = "" }, "a long tag": func(r *api.Record) { r.ETag = strings.Repeat("a", 41) },
		"a tag g": func(r *api.Record) { r.ETag = "g" }, "no K": func(r *api.Record) { r.K = 0 }, "no M": func(r *api.Record) { r.M = 0 },
		"K 16": func(r *api.Record) { r.K = 16 }, "M 16": func(r *api.Record) { r.M = 16 }, "K and M 17": func(r *api.Record) { r.K, r.M = 9, 8 },
		"a great K": func(r *api.Record) { r.K = maxUint }, "a great M": func(r *api.Record) { r.M = maxUint },
		"K 257": func(r *api.Record) { r.K = 257 }, "no data name": func(r *api.Record) { r.Data = "" },
		"a short data name": func(r *api.Record) { r.Data = r.Data[:31] }, "a long data name": func(r *api.Record) { r.Data += "0" },
		"a data name with g": func(r *api.Record) { r.Data = r.Data[:31] + "g" },
		"a data name with -": func(r *api.Record) { r.Data = "-" + r.Data[:31] },
		"33 parts":           many(33), "64 parts": many(64), "257 parts": many(257),
		"a part 0":         parts(api.PartSize{Number: 0, Size: 3}),
		"a part 10001":     parts(api.PartSize{Number: 10001, Size: 3}),
		"a great part":     parts(api.PartSize{Number: maxUint, Size: 3}),
		"parts alike":      parts(api.PartSize{Number: 4, Size: 3}, api.PartSize{Number: 4}),
		"parts that fall":  parts(api.PartSize{Number: 4, Size: 3}, api.PartSize{Number: 3}),
		"a part too small": parts(api.PartSize{Number: 4, Size: 2}),
		"a part too great": parts(api.PartSize{Number: 4, Size: 4}),
		"a part of 2^40":   parts(api.PartSize{Number: 4, Size: maxUint}),
		"one more byte":    parts(api.PartSize{Number: 4, Size: 3}, api.PartSize{Number: 5, Size: 1}),
		"parts of nothing": parts(api.PartSize{Number: 4}, api.PartSize{Number: 5}),
		"a long Up":        func(r *api.Record) { r.Up = strings.Repeat("a", 33) },
		"an Up A":          func(r *api.Record) { r.Up = "A" }, "an Up -": func(r *api.Record) { r.Up = "-" },
	} {
		r := with(plain(), change)
		if mayBe(r) {
			t.Errorf("%s may be", what)
		}
		b := bytesOf(r)
		wantNoRead(t, what, b)
		wantNoRead(t, what+", with bytes behind", append(b, make([]byte, 70000)...))
	}
	for what, change := range map[string]func(r *api.Record){
		"no ID": func(r *api.Record) { r.ID = "" }, "a long ID": func(r *api.Record) { r.ID = strings.Repeat("a", 33) },
		"an ID A": func(r *api.Record) { r.ID = "A" }, "a late time": func(r *api.Record) { r.Time = maxNow + 1 },
	} {
		wantNoRead(t, "a mark, "+what, append(bytesOf(with(mark(), change)), 1, 1))
	}
}

// fillParts gives parts numbers that rise, and sizes that are together the record's.
func fillParts(r *api.Record) {
	for i := range r.Parts {
		r.Parts[i] = api.PartSize{Number: i + 1}
	}
	r.Parts[0].Size = r.Size
}

// TestReadOfManyParts: how many there are is told, and they are not there.
func TestReadOfManyParts(t *testing.T) {
	b := bytesOf(plain())
	ahead := b[:len(b)-2]
	for _, count := range []int{1, 2, 32, 33, 127, 128, 1 << 20, 1 << 31, 1 << 32, maxUint, maxUint + 1} {
		for _, behind := range [][]byte{nil, {0}, {1, 3, 0}, {1, 3}, {1}, {1, 3, 2}} {
			all := slices.Concat(ahead, numberOf(count), behind)
			if count == 1 && len(behind) == 3 && behind[2] == 0 {
				wantRead(t, "one part", all, with(plain(), func(r *api.Record) { r.Parts = []api.PartSize{{Number: 1, Size: 3}} }), nil)
				continue
			}
			wantNoRead(t, fmt.Sprint(count, " parts"), all)
		}
	}
}

// TestReadOfNumbersWithAByteMore: each number of a record, written with a last byte 0, is none.
func TestReadOfNumbersWithAByteMore(t *testing.T) {
	r := partly()
	pieces := [][]byte{numberOf(2), []byte(r.ID), numberOf(r.Time), {0}, numberOf(r.Size), numberOf(4), []byte(r.ETag), numberOf(r.K),
		numberOf(r.M), numberOf(32), []byte(r.Data), r.Sum[:], numberOf(2), numberOf(2), numberOf(0), numberOf(200), numberOf(200),
		numberOf(2), []byte(r.Up)}
	if !bytes.Equal(slices.Concat(pieces...), bytesOf(r)) {
		t.Fatal("the pieces are not the record's")
	}
	for _, i := range []int{0, 2, 4, 5, 7, 8, 9, 12, 13, 14, 15, 16, 17} {
		other := slices.Clone(pieces)
		piece := slices.Clone(pieces[i])
		piece[len(piece)-1] |= 128
		other[i] = append(piece, 0)
		wantNoRead(t, fmt.Sprint("piece ", i), append(slices.Concat(other...), 0, 0, 0))
		other[i] = append(slices.Clip(piece), 128, 0)
		wantNoRead(t, fmt.Sprint("piece ", i), append(slices.Concat(other...), 0, 0, 0))
		other[i] = binary.AppendUvarint(nil, math.MaxUint64)
		wantNoRead(t, fmt.Sprint("piece ", i), append(slices.Concat(other...), 0, 0, 0))
	}
}

// P7.4

func TestThereAndBack(t *testing.T) {
	r := rand.New(rand.NewSource(78))
	for range 5000 {
		v := drawn(r)
		b, err := record.Bytes(v)
		wantBytes(t, "drawn", b, err, bytesOf(v), api.OK)
		wantRead(t, "drawn", b, v, nil)
		for range 6 {
			other := slices.Clone(b)
			switch r.Intn(3) {
			case 0:
				other[r.Intn(len(b))] ^= 1 << r.Intn(8)
			case 1:
				other[r.Intn(len(b))] = byte(r.Intn(4))
			case 2:
				other = append(other[:r.Intn(len(b))], bytesOf(drawn(r))...)
			}
			askRead(t, other)
		}
	}
}

func TestThereAndBackAtEdges(t *testing.T) {
	for _, when := range []int{0, 127, 128, maxNow} {
		for _, up := range []string{"", "0", strings.Repeat("z", 32)} {
			for _, count := range []int{0, 1, 31, 32} {
				for _, size := range []int{0, 1, 127, 128, maxSize} {
					r := plain()
					r.Time, r.Up, r.Size, r.Parts = when, up, size, make([]api.PartSize, count)
					if count > 0 {
						fillParts(&r)
						r.Parts[count-1].Number = 10000
					}
					b, err := record.Bytes(r)
					wantBytes(t, "edges", b, err, bytesOf(r), api.OK)
					wantRead(t, "edges", append(b, 1), r, []byte{1})
				}
			}
		}
	}
}

// TestNoBytesBeginOthers: of texts in order, one that begins others begins the next one.
func TestNoBytesBeginOthers(t *testing.T) {
	r := rand.New(rand.NewSource(79))
	seen := map[string]api.Record{}
	for _, v := range kinds() {
		seen[string(bytesOf(v))] = v
		for _, change := range changes() {
			seen[string(bytesOf(with(v, change)))] = with(v, change)
		}
	}
	for range 3000 {
		v := drawn(r)
		few := with(v, func(v *api.Record) { v.ID, v.Time = v.ID[:1], v.Time%3 })
		for _, v := range []api.Record{v, few, {ID: v.ID, Time: v.Time, Mark: true}, {ID: few.ID, Time: few.Time, Mark: true}} {
			seen[string(bytesOf(v))] = v
		}
	}
	var all []string
	for _, v := range seen {
		if b, err := record.Bytes(v); err == api.OK {
			all = append(all, string(b))
		}
	}
	slices.Sort(all)
	if len(all) < 3000 {
		t.Errorf("only %d records", len(all))
	}
	for i := range all[1:] {
		if strings.HasPrefix(all[i+1], all[i]) {
			t.Errorf("%x begins %x", all[i], all[i+1])
		}
	}
}

// Rule 4: memory

const spare = 0xAB

// roomy is a copy of bytes with spare room, which is marked.
func roomy(b []byte) []byte {
	room := slices.Concat(b, bytes.Repeat([]byte{spare}, 400))
	return room[:len(b):len(room)]
}

// untouched tells whether bytes are as they were, and their spare room, too.
func untouched(b, was []byte) bool {
	room := b[:cap(b)][len(b):]
	return bytes.Equal(b, was) && bytes.Count(room, []byte{spare}) == len(room)
}

// fill writes all over bytes and their spare room.
func fill(b []byte, c byte) {
	b = b[:cap(b)]
	for i := range b {
		b[i] = c
	}
}

// inputs are bytes of which something can be read, and such of which nothing can.
func inputs() [][]byte {
	all := [][]byte{nil, {0}, {128}, {1, 'a'}, {1, 'a', 2, 3}, {3, 'a'}, {128, 0, 7}}
	for _, r := range kinds() {
		b := bytesOf(r)
		all = append(all, b, append(slices.Clone(b), 1, 2, 3), b[:len(b)-1], append(slices.Clone(b), make([]byte, 300)...))
	}
	return all
}

func TestNothingIsChanged(t *testing.T) {
	for i, was := range inputs() {
		b := roomy(was)
		record.ReadUint(b)
		record.ReadText(b)
		record.Read(b)
		if !untouched(b, was) {
			t.Errorf("input %d was changed", i)
		}
	}
	for i, was := range append(kinds(), odd()...) {
		r := roomyParts(was)
		record.Check(r)
		record.Copy(r)
		record.Bytes(r)
		record.Same(r, roomyParts(mark()))
		record.Same(roomyParts(whole()), r)
		if !untouchedParts(r, was) {
			t.Errorf("record %d was changed", i)
		}
	}
}

// TestSpareRoomIsNotRead: bytes with marked room are read as the same bytes without.
func TestSpareRoomIsNotRead(t *testing.T) {
	for _, was := range inputs() {
		askNumber(t, roomy(was))
		askText(t, roomy(was))
		askRead(t, roomy(was))
		for length := range min(len(was), 60) {
			askNumber(t, was[:length])
			askText(t, was[:length])
			askRead(t, was[:length])
		}
	}
	for i, was := range kinds() {
		r := roomyParts(was)
		if err := record.Check(r); err != api.OK {
			t.Errorf("Check of %d with spare room: %d", i, err)
		}
		b, err := record.Bytes(r)
		wantBytes(t, "spare room", b, err, bytesOf(was), api.OK)
	}
}

// TestWhatIsBehindIsItsOwn: what is written into the bytes later is not seen in an answer, nor the other way round.
func TestWhatIsBehindIsItsOwn(t *testing.T) {
	for i, was := range inputs() {
		for name, read := range map[string]func(b []byte) []byte{
			"ReadUint": func(b []byte) []byte { _, rest, _ := record.ReadUint(b); return rest },
			"ReadText": func(b []byte) []byte { _, rest, _ := record.ReadText(b); return rest },
			"Read":     func(b []byte) []byte { _, rest, _ := record.Read(b); return rest },
		} {
			b := roomy(was)
			rest, again := read(b), read(b)
			wanted := slices.Clone(again)
			if bytes.Contains(rest[:cap(rest)][len(rest):], []byte{spare}) {
				t.Errorf("%s of input %d hands out spare room", name, i)
			}
			fill(rest, 7)
			if !untouched(b, was) || !bytes.Equal(again, wanted) {
				t.Errorf("%s of input %d: what is behind is not its own", name, i)
			}
			fill(b, 9)
			if !bytes.Equal(again, wanted) {
				t.Errorf("%s of input %d: what is behind follows the bytes", name, i)
			}
		}
	}
}

func TestWhatIsReadIsItsOwn(t *testing.T) {
	for i, was := range kinds() {
		b := roomy(bytesOf(was))
		r, _, _ := record.Read(b)
		other, _, _ := record.Read(b)
		text, _, _ := record.ReadText(b)
		fill(b, 9)
		if !same(r, was) || text != was.ID {
			t.Errorf("what is read of kind %d follows the bytes: %+v, %q", i, r, text)
		}
		all := other.Parts[:cap(other.Parts)]
		for p := range all {
			all[p] = api.PartSize{Number: -1}
		}
		if !same(r, was) {
			t.Errorf("two records read of kind %d share parts", i)
		}
	}
}

func TestWhatIsWrittenIsItsOwn(t *testing.T) {
	for i, was := range kinds() {
		r := roomyParts(was)
		b, _ := record.Bytes(r)
		other, _ := record.Bytes(r)
		fill(other, 9)
		for p := range r.Parts {
			r.Parts[p] = marked
		}
		wantBytes(t, fmt.Sprint("kind ", i), b, api.OK, bytesOf(was), api.OK)
	}
	for _, n := range []int{0, 127, 128, maxUint} {
		b, _ := record.Uint(n)
		other, _ := record.Uint(n)
		fill(other, 9)
		again, err := record.Uint(n)
		wantBytes(t, "a number", b, err, numberOf(n), api.OK)
		wantBytes(t, "a number again", again, err, numberOf(n), api.OK)
	}
	for _, s := range []string{"", "a", strings.Repeat("a", 200)} {
		b, _ := record.Text(s)
		other, _ := record.Text(s)
		fill(other, 9)
		again, err := record.Text(s)
		wantBytes(t, "a text", b, err, textOf(s), api.OK)
		wantBytes(t, "a text again", again, err, textOf(s), api.OK)
	}
}
