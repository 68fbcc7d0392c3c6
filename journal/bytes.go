package journal

import (
	"bytes"
	"errors"

	"stowage/api"
	"stowage/digest"
	"stowage/record"
)

const (
	sign      = "SJ1"
	digestLen = len(api.Digest{})
	leastLen  = len(sign) + digestLen
)

var (
	errForm   = errors.New("not as a journal is written")
	errTurned = errors.New("not what the digest was made of")
)

// Bytes tells a journal's bytes.
func Bytes(j api.Journal) ([]byte, api.Errno) {
	if err := Check(j); err != api.OK {
		return nil, err
	}
	// No number and no record of a journal that may be is refused.
	seq, _ := record.Uint(j.Seq)
	count, _ := record.Uint(len(j.Records))
	b := append(append([]byte(sign), seq...), count...)
	for _, r := range j.Records {
		next, _ := record.Bytes(r)
		b = append(b, next...)
	}
	d := digest.Sum(b)
	return append(b, d[:]...), api.OK
}

// reading is what is left of bytes, and what was read of them so far.
type reading struct {
	left  []byte
	count int
	j     api.Journal
}

// Read tells the journal of bytes.
func Read(b []byte) (api.Journal, api.Errno) {
	r := reading{left: b}
	for _, look := range looks() {
		if err := look(&r); err != nil {
			return api.Journal{}, told(err)
		}
	}
	return r.j, api.OK
}

// looks tells by what bytes are looked at, in the order of the errors.
func looks() []func(r *reading) error {
	return []func(r *reading) error{lookAtSign, lookAtDigest, readSeq, readCount, readRecords, lookAtEnd}
}

// told tells the number of an error.
func told(err error) api.Errno {
	if errors.Is(err, errTurned) {
		return api.ErrDigest
	}
	return api.ErrBytes
}

// lookAtSign asks whether the bytes may be a journal's at all.
func lookAtSign(r *reading) error {
	if len(r.left) < leastLen || !bytes.HasPrefix(r.left, []byte(sign)) {
		return errForm
	}
	return nil
}

// lookAtDigest asks whether the bytes are those that were written, and leaves what stands between sign and digest.
func lookAtDigest(r *reading) error {
	end := len(r.left) - digestLen
	d := digest.Sum(r.left[:end])
	if !bytes.Equal(d[:], r.left[end:]) {
		return errTurned
	}
	r.left = r.left[len(sign):end]
	return nil
}

// readSeq reads how many changes made the journal.
func readSeq(r *reading) error { return readNumber(r, &r.j.Seq) }

// readCount reads how many records follow.
func readCount(r *reading) error { return readNumber(r, &r.count) }

// readNumber reads a number into n.
func readNumber(r *reading, n *int) error {
	next, rest, err := record.ReadUint(r.left)
	if err != api.OK {
		return errForm
	}
	*n, r.left = next, rest
	return nil
}

// readRecords reads as many records as were told.
func readRecords(r *reading) error {
	// No journal has more: they would be read for nothing.
	if r.count > api.MaxVersions {
		return errForm
	}
	for range r.count {
		next, rest, err := record.Read(r.left)
		if err != api.OK {
			return errForm
		}
		r.j.Records, r.left = append(r.j.Records, next), rest
	}
	return nil
}

// lookAtEnd asks whether nothing is left over, and the journal may be.
func lookAtEnd(r *reading) error {
	if len(r.left) > 0 || Check(r.j) != api.OK {
		return errForm
	}
	return nil
}
