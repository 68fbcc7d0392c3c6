package record

import "stowage/api"

// reader takes bytes from the front, and remembers the first fault: from then on it takes none, and what it tells counts for nothing.
type reader struct {
	left  []byte
	fault api.Errno
}

// readerOf tells one that cannot reach the spare room of the bytes.
func readerOf(b []byte) *reader { return &reader{left: clipped(b)} }

// need remembers a fault, if it is the first one.
func (r *reader) need(ok bool) {
	if !ok && r.fault == api.OK {
		r.fault = api.ErrBytes
	}
}

// take takes n bytes, clipped, so that nothing can be laid over those behind them.
func (r *reader) take(n int) []byte {
	r.need(n <= len(r.left))
	if r.fault != api.OK {
		return nil
	}
	taken := r.left[:n:n]
	r.left = r.left[n:]
	return taken
}

// one takes a byte.
func (r *reader) one() byte {
	taken := r.take(1)
	if r.fault != api.OK {
		return 0
	}
	return taken[0]
}

// number takes a number.
func (r *reader) number() int {
	n := 0
	for shift := 0; shift <= maxShift; shift += bits {
		b := r.one()
		n |= int(b%more) << shift
		if b < more {
			// A last byte 0 would be a second way to write the number without it.
			r.need(n <= maxUint && (b > 0 || shift == 0))
			return n
		}
	}
	r.need(false)
	return 0
}

// text takes a text.
func (r *reader) text() string {
	n := r.number()
	r.need(n <= maxText)
	return string(r.take(n))
}

// record takes a record that may be.
func (r *reader) record() api.Record {
	v := api.Record{ID: r.text(), Time: r.number()}
	kind := r.one()
	r.need(kind == aVersion || kind == aMark)
	v.Mark = kind == aMark
	if !v.Mark {
		r.version(&v)
	}
	r.need(Check(v) == api.OK)
	return v
}

// version takes what only a record of no mark has.
func (r *reader) version(v *api.Record) {
	v.Size, v.ETag = r.number(), r.text()
	v.K, v.M = r.number(), r.number()
	v.Data = r.text()
	copy(v.Sum[:], r.take(len(v.Sum)))
	v.Parts = r.parts()
	v.Up = r.text()
}

// parts takes how many parts there are, and these.
func (r *reader) parts() []api.PartSize {
	count := r.number()
	// No record has more: they would be taken for nothing.
	r.need(count <= api.MaxParts)
	var parts []api.PartSize
	for len(parts) < count && r.fault == api.OK {
		parts = append(parts, api.PartSize{Number: r.number(), Size: r.number()})
	}
	return clipped(parts)
}

// told tells what was taken and, in new memory, what is behind it; nothing but the fault, if there is one.
func told[T any](r *reader, taken T) (T, []byte, api.Errno) {
	if r.fault != api.OK {
		var none T
		return none, nil, r.fault
	}
	return taken, fresh(r.left), api.OK
}

// ReadUint tells the number at the front of bytes, and what is behind it.
func ReadUint(b []byte) (int, []byte, api.Errno) {
	r := readerOf(b)
	return told(r, r.number())
}

// ReadText tells the text at the front of bytes, and what is behind it.
func ReadText(b []byte) (string, []byte, api.Errno) {
	r := readerOf(b)
	return told(r, r.text())
}

// Read tells the record at the front of bytes, and what is behind it.
func Read(b []byte) (api.Record, []byte, api.Errno) {
	r := readerOf(b)
	return told(r, r.record())
}
