package journal_test

import (
	"bytes"
	"crypto/sha256"
	"encoding/binary"
	"fmt"
	"math"
	"math/rand"
	"slices"
	"strings"
	"testing"

	"stowage/api"
	"stowage/journal"
	"stowage/record"
)

const (
	sumLen = 32
	least  = 35
)

// numberOf, textOf and recordOf are the bytes of a number, of a text and of a record, whether they may be or not.
func numberOf(n int) []byte { return binary.AppendUvarint(nil, uint64(n)) }

func textOf(s string) []byte { return append(numberOf(len(s)), s...) }

func recordOf(r api.Record) []byte {
	b := append(textOf(r.ID), numberOf(r.Time)...)
	if r.Mark {
		return append(b, 1)
	}
	b = slices.Concat(b, []byte{0}, numberOf(r.Size), textOf(r.ETag), numberOf(r.K), numberOf(r.M), textOf(r.Data), r.Sum[:], numberOf(len(r.Parts)))
	for _, p := range r.Parts {
		b = slices.Concat(b, numberOf(p.Number), numberOf(p.Size))
	}
	return append(b, textOf(r.Up)...)
}

// isFullMark tells whether a record is a mark with more than one has: its bytes are those of one that may be.
func isFullMark(r api.Record) bool { return r.Mark && r.Size > 0 }

// sealed is bytes with their digest behind them.
func sealed(pieces ...[]byte) []byte {
	b := slices.Concat(pieces...)
	sum := sha256.Sum256(b)
	return append(b, sum[:]...)
}

// bodyOf is what stands ahead of the digest, as the document says it, whether the journal may be or not.
func bodyOf(j api.Journal) []byte { return told(j, len(j.Records)) }

// told is that with another number of records told.
func told(j api.Journal, count int) []byte {
	b := slices.Concat([]byte("SJ1"), numberOf(j.Seq), numberOf(count))
	for _, r := range j.Records {
		b = append(b, recordOf(r)...)
	}
	return b
}

func bytesOf(j api.Journal) []byte { return sealed(bodyOf(j)) }

// modelRead reads without heed, and then asks whether there is a journal that may be whose bytes these are.
func modelRead(b []byte) (api.Journal, api.Errno) {
	if len(b) < least || string(b[:3]) != "SJ1" {
		return api.Journal{}, api.ErrBytes
	}
	if sum := sha256.Sum256(b[:len(b)-sumLen]); !bytes.Equal(sum[:], b[len(b)-sumLen:]) {
		return api.Journal{}, api.ErrDigest
	}
	left := b[3 : len(b)-sumLen]
	var j api.Journal
	seq, length := binary.Uvarint(left)
	j.Seq, left = int(seq), left[max(length, 0):]
	_, length = binary.Uvarint(left)
	left = left[max(length, 0):]
	for len(left) > 0 && len(j.Records) <= maxCount {
		r, rest, err := record.Read(left)
		if err != api.OK {
			break
		}
		j.Records, left = append(j.Records, r), rest
	}
	if mayBe(j) && bytes.Equal(bytesOf(j), b) {
		return j, api.OK
	}
	return api.Journal{}, api.ErrBytes
}

func wantBytes(t *testing.T, what string, b []byte, err api.Errno, wanted []byte, wantedErr api.Errno) {
	t.Helper()
	if !bytes.Equal(b, wanted) || err != wantedErr {
		t.Errorf("%s: %x, %d; want %x, %d", what, b[:min(len(b), 400)], err, wanted[:min(len(wanted), 400)], wantedErr)
	}
}

// askRead holds what is read against the document's words, and what is read, written again, against what was read.
func askRead(t *testing.T, what string, b []byte) {
	t.Helper()
	wanted, wantedErr := modelRead(b)
	j, err := journal.Read(b)
	wantJournal(t, what, j, err, wanted, wantedErr)
	if err == api.OK {
		again, err := journal.Bytes(j)
		wantBytes(t, what+", read and written", again, err, b, api.OK)
	}
}

func wantNoRead(t *testing.T, what string, b []byte, wanted api.Errno) {
	t.Helper()
	j, err := journal.Read(b)
	wantJournal(t, what, j, err, api.Journal{}, wanted)
	askRead(t, what, b)
}

// few are journals whose bytes are few enough to be gone through.
func few() []api.Journal {
	return []api.Journal{{Seq: 1, Records: []api.Record{mark("null", 5)}}, {Seq: 1}, {Seq: maxSeq}, of(300, 2),
		{Seq: 128, Records: []api.Record{parted("a"), mark("b", 0), plain("c")}}}
}

// P8.2

func TestBytesKnown(t *testing.T) {
	b, err := journal.Bytes(api.Journal{Seq: 1, Records: []api.Record{mark("null", 5)}})
	wantBytes(t, "the mark null at 5", b, err, sealed([]byte{'S', 'J', '1', 1, 1, 4, 'n', 'u', 'l', 'l', 5, 1}), api.OK)
	if len(b) != 44 {
		t.Errorf("the mark null at 5: %d bytes; want 44", len(b))
	}
	b, err = journal.Bytes(api.Journal{Seq: 1})
	wantBytes(t, "none", b, err, sealed([]byte{'S', 'J', '1', 1, 0}), api.OK)
	b, err = journal.Bytes(api.Journal{Seq: 300, Records: []api.Record{mark("b", 0), mark("a", 128)}})
	wantBytes(t, "two marks", b, err, sealed([]byte{'S', 'J', '1', 172, 2, 2, 1, 'b', 0, 1, 1, 'a', 128, 1, 1}), api.OK)
	b, err = journal.Bytes(api.Journal{Seq: maxSeq, Records: []api.Record{plain("a")}})
	wantBytes(t, "one that is no mark", b, err, sealed([]byte{'S', 'J', '1', 128, 128, 128, 128, 128, 32, 1, 1, 'a', 172, 2, 0, 3, 1, 'a', 1, 1, 32},
		bytes.Repeat([]byte("0"), 32), []byte{1}, make([]byte, 30), []byte{255, 0, 0}), api.OK)
}

func TestThereAndBack(t *testing.T) {
	for what, j := range right() {
		b, err := journal.Bytes(j)
		wantBytes(t, what, b, err, bytesOf(j), api.OK)
		read, err := journal.Read(b)
		wantJournal(t, what, read, err, j, api.OK)
		askRead(t, what, b)
	}
	r := rand.New(rand.NewSource(83))
	for range 1500 {
		j := drawn(r)
		read, err := journal.Read(bytesOf(j))
		wantJournal(t, "drawn", read, err, j, api.OK)
		askRead(t, "drawn", bytesOf(j))
	}
}

// TestThereAndBackOfTheGreatest: each of 64 records has as many bytes as one may have.
func TestThereAndBackOfTheGreatest(t *testing.T) {
	j := api.Journal{Seq: maxSeq}
	for i := range 64 {
		r := parted(fmt.Sprintf("%032d", i))
		r.Parts = nil
		for n := range 32 {
			r.Parts = append(r.Parts, api.PartSize{Number: 5000 + n, Size: 2048})
		}
		j.Records = append(j.Records, r)
	}
	b, err := journal.Bytes(j)
	wantBytes(t, "the greatest", b, err, bytesOf(j), api.OK)
	read, err := journal.Read(b)
	wantJournal(t, "the greatest", read, err, j, api.OK)
}

func TestBytesOfWhatMayNotBe(t *testing.T) {
	for what, j := range wrong() {
		b, err := journal.Bytes(j)
		wantBytes(t, what, b, err, nil, api.ErrArg)
	}
}

func TestReadOfFewBytes(t *testing.T) {
	wantNoRead(t, "none", nil, api.ErrBytes)
	wantNoRead(t, "empty", []byte{}, api.ErrBytes)
	for length := range 80 {
		wantNoRead(t, fmt.Sprint(length, " noughts"), make([]byte, length), api.ErrBytes)
		wanted := api.ErrBytes
		if length >= least {
			wanted = api.ErrDigest
		}
		wantNoRead(t, fmt.Sprint(length, " bytes with the sign"), append([]byte("SJ1"), make([]byte, 80)...)[:length], wanted)
		// Bytes that are the digest of none ahead of them, or of too few.
		wantNoRead(t, fmt.Sprint("the digest of ", length, " bytes"), sealed(bytes.Repeat([]byte{'S'}, length)), api.ErrBytes)
	}
	wantNoRead(t, "a digest alone", sealed(), api.ErrBytes)
	wantNoRead(t, "S and its digest", sealed([]byte("S")), api.ErrBytes)
	wantNoRead(t, "SJ and its digest", sealed([]byte("SJ")), api.ErrBytes)
	wantNoRead(t, "SJ1 and its digest", sealed([]byte("SJ1")), api.ErrBytes)
	wantNoRead(t, "SJ1 and another digest", append(sealed([]byte("SJ1"))[:34], 0), api.ErrDigest)
	wantNoRead(t, "SJ1 and a digest but a byte", sealed([]byte("SJ1"))[:34], api.ErrBytes)
	wantNoRead(t, "SJ1, a Seq and their digest", sealed([]byte("SJ1\x01")), api.ErrBytes)
}

func TestReadOfBeginnings(t *testing.T) {
	for i, j := range append(few(), of(9, 64)) {
		b := bytesOf(j)
		for length := range b {
			wanted := api.ErrDigest
			if length < least {
				wanted = api.ErrBytes
			}
			wantNoRead(t, fmt.Sprint(length, " bytes of ", i), b[:length], wanted)
			// What was cut off stands in spare room still, unless the room is cut off, too.
			wantNoRead(t, fmt.Sprint(length, " bytes of ", i, " alone"), b[:length:length], wanted)
			if length > 0 {
				askRead(t, fmt.Sprint("all but the first ", length, " bytes of ", i), b[length:])
			}
		}
	}
}

func TestReadOfTurnedBytes(t *testing.T) {
	for i, j := range append(few(), of(9, 64)) {
		b := bytesOf(j)
		for place := range b {
			wanted := api.ErrDigest
			if place < 3 {
				wanted = api.ErrBytes
			}
			for mask := 1; mask < 256; mask++ {
				if len(b) > 100 && mask&(mask-1) != 0 && mask != 255 || len(b) > 1000 && mask != 1<<(place%8) {
					continue
				}
				other := slices.Clone(b)
				other[place] ^= byte(mask)
				wantNoRead(t, fmt.Sprint("byte ", place, " of ", i, " turned by ", mask), other, wanted)
			}
		}
	}
}

// TestReadOfMoreBytes: bytes behind a journal's, ahead of them, between them, and one missing.
func TestReadOfMoreBytes(t *testing.T) {
	for i, j := range few() {
		b := bytesOf(j)
		for _, c := range []byte{0, 1, 'S', 128, 255} {
			wantNoRead(t, fmt.Sprint(i, " with a byte behind it"), append(slices.Clone(b), c), api.ErrDigest)
			for place := range b {
				wanted := api.ErrDigest
				other := slices.Insert(slices.Clone(b), place, c)
				if !bytes.HasPrefix(other, []byte("SJ1")) {
					wanted = api.ErrBytes
				}
				wantNoRead(t, fmt.Sprint(i, " with a byte at ", place), other, wanted)
			}
		}
		for place := range b {
			askRead(t, fmt.Sprint(i, " without byte ", place), slices.Delete(slices.Clone(b), place, place+1))
		}
		wantNoRead(t, fmt.Sprint(i, " twice"), slices.Concat(b, b), api.ErrDigest)
		wantNoRead(t, fmt.Sprint(i, " twice, sealed"), sealed(b, b), api.ErrBytes)
		wantNoRead(t, fmt.Sprint(i, " sealed twice"), sealed(b), api.ErrBytes)
		wantNoRead(t, fmt.Sprint(i, " with its digest ahead"), slices.Concat(b[len(b)-sumLen:], b[:len(b)-sumLen]), api.ErrBytes)
	}
}

// TestReadOfOtherSigns: the first three bytes are others, but the digest is right.
func TestReadOfOtherSigns(t *testing.T) {
	for i, j := range few() {
		body := bodyOf(j)
		for place := range 3 {
			for c := range 256 {
				other := slices.Clone(body)
				other[place] = byte(c)
				what := fmt.Sprint(i, " with ", c, " at ", place)
				if byte(c) == body[place] {
					askRead(t, what, sealed(other))
					continue
				}
				wantNoRead(t, what, sealed(other), api.ErrBytes)
				wantNoRead(t, what+" and another digest", append(other, make([]byte, sumLen)...), api.ErrBytes)
			}
		}
		for _, sign := range []string{"", "S", "SJ", "SJ2", "SJ0", "sj1", "JS1", "1JS", "SJ1 ", "SJ11", " SJ1", "SF1", "\x00\x00\x00", "SSJ1"} {
			wantNoRead(t, fmt.Sprintf("%d with %q", i, sign), sealed([]byte(sign), body[3:]), api.ErrBytes)
		}
	}
}

// TestReadByHand: the digest is right, but what stands ahead of it is no journal that may be.
func TestReadByHand(t *testing.T) {
	for what, j := range wrong() {
		if !slices.ContainsFunc(j.Records, isFullMark) {
			wantNoRead(t, what, bytesOf(j), api.ErrBytes)
		}
	}
	for what, b := range map[string][]byte{
		"nothing":                  {},
		"a Seq alone":              {1},
		"a Seq cut off":            {128},
		"a Seq 0":                  {0, 0},
		"a Seq 0 with a byte more": {128, 0, 0},
		"a Seq 1 with a byte more": {129, 0, 0},
		"a Seq above":              append(numberOf(maxSeq+1), 0),
		"a Seq far above":          append(binary.AppendUvarint(nil, math.MaxUint64), 0),
		"a Seq of 2^63":            append(binary.AppendUvarint(nil, 1<<63), 0),
		"a Seq without end":        append(bytes.Repeat([]byte{128}, 100), 1, 0),
		"a count cut off":          {1, 128},
		"a count with a byte more": {1, 128, 0},
		"a count of one, and none": {1, 1},
		"a count without end":      append([]byte{1}, bytes.Repeat([]byte{128}, 100)...),
		"the greatest count":       append([]byte{1}, numberOf(maxSeq)...),
		"a count beyond":           append([]byte{1}, binary.AppendUvarint(nil, math.MaxUint64)...),
		"none and a byte":          {1, 0, 0},
		"none and a record":        append([]byte{1, 0}, recordOf(mark("a", 1))...),
		"one and a byte":           append(append([]byte{1, 1}, recordOf(mark("a", 1))...), 0),
		"one and its count cut":    append([]byte{1}, recordOf(mark("a", 1))...),
		"a record with a fault":    {1, 1, 1, 'a', 5, 2},
		"a record cut off":         {1, 1, 1, 'a', 5},
		"a record's text cut off":  {1, 1, 2, 'a'},
	} {
		wantNoRead(t, what, sealed([]byte("SJ1"), b), api.ErrBytes)
		wantNoRead(t, what+", not sealed", slices.Concat([]byte("SJ1"), b, make([]byte, sumLen)), api.ErrDigest)
	}
}

// TestReadOfOtherCounts: fewer or more records than are told.
func TestReadOfOtherCounts(t *testing.T) {
	for _, have := range []int{0, 1, 2, 3, 63, 64, 65, 66} {
		for _, count := range []int{0, 1, 2, 3, 62, 63, 64, 65, 66, 127, 128, 256, 320, 1 << 16, 1<<32 + have, maxSeq, maxSeq + 1} {
			b := sealed(told(of(7, have), count))
			if have == count && have <= maxCount {
				j, err := journal.Read(b)
				wantJournal(t, fmt.Sprint(have), j, err, of(7, have), api.OK)
			} else {
				wantNoRead(t, fmt.Sprint(have, " records, ", count, " told"), b, api.ErrBytes)
			}
		}
	}
}

// TestReadOfWrongRecordsAtEachPlace: one that may not be, or is of the ID of another one, at each place.
func TestReadOfWrongRecordsAtEachPlace(t *testing.T) {
	for _, count := range []int{1, 2, 3, 64} {
		for place := range count {
			for what, r := range wrongRecords(id(place)) {
				if isFullMark(r) {
					continue
				}
				j := with(of(7, count), func(j *api.Journal) { j.Records[place] = r })
				wantNoRead(t, fmt.Sprint(what, " at ", place, " of ", count), bytesOf(j), api.ErrBytes)
			}
			for first := range place {
				j := at(of(7, count), place, func(r *api.Record) { r.ID = id(first) })
				wantNoRead(t, fmt.Sprint(first, " and ", place, " of ", count), bytesOf(j), api.ErrBytes)
			}
		}
	}
}

// TestReadOfTurnedBytesWithDigests: what is turned, put in or taken out ahead of the digest is sealed anew.
func TestReadOfTurnedBytesWithDigests(t *testing.T) {
	for i, j := range few() {
		body := bodyOf(j)
		for place := range body {
			for mask := 1; mask < 256; mask++ {
				other := slices.Clone(body)
				other[place] ^= byte(mask)
				askRead(t, fmt.Sprint("byte ", place, " of ", i, " turned by ", mask), sealed(other))
			}
			for _, c := range []byte{0, 1, 2, 'a', 128, 255} {
				askRead(t, fmt.Sprint(i, " with ", c, " at ", place), sealed(slices.Insert(slices.Clone(body), place, c)))
			}
			askRead(t, fmt.Sprint(i, " without ", place), sealed(slices.Delete(slices.Clone(body), place, place+1)))
			wantNoRead(t, fmt.Sprint(i, " up to ", place), sealed(body[:place]), api.ErrBytes)
		}
	}
}

// TestReadOfLongBytes: far more than any journal has, with and without a digest.
func TestReadOfLongBytes(t *testing.T) {
	long := bytes.Repeat([]byte{1}, 1<<20)
	wantNoRead(t, "noughts", make([]byte, 1<<20), api.ErrBytes)
	wantNoRead(t, "the sign and long", append([]byte("SJ1"), long...), api.ErrDigest)
	wantNoRead(t, "the sign, long and the digest", sealed([]byte("SJ1"), long), api.ErrBytes)
	wantNoRead(t, "64 records and long", sealed(bodyOf(of(7, 64)), long), api.ErrBytes)
	many := []byte(strings.Repeat(string(recordOf(mark("a", 1))), 1<<18))
	wantNoRead(t, "many records", sealed([]byte("SJ1\x07"), numberOf(1<<18), many), api.ErrBytes)
}

func TestReadDrawn(t *testing.T) {
	r := rand.New(rand.NewSource(84))
	for range 5000 {
		b := make([]byte, r.Intn(100))
		r.Read(b)
		askRead(t, "drawn", b)
		askRead(t, "drawn and sealed", sealed(b))
		askRead(t, "drawn, the sign ahead", sealed([]byte("SJ1"), b))
		for i := range b {
			b[i] %= 4
		}
		askRead(t, "drawn of few", sealed([]byte("SJ1"), b))
		body := bodyOf(drawn(r))
		other := append(slices.Clone(body[:r.Intn(len(body)+1)]), bodyOf(drawn(r))[3:]...)
		askRead(t, "two drawn", sealed(other))
	}
}
