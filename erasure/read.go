package erasure

import (
	"stowage/api"
	"stowage/fan"
	"stowage/journal"
	"stowage/shard"
)

// reading is how bytes of a version are told by what drives answer for its shard files.
type reading func(l []api.Copy, r api.Record) ([]byte, api.Errno)

// Get reads a version.
func (s *Set) Get(path, id string) (api.Record, []byte, api.Errno) {
	return s.read(path, id, shard.Read)
}

// Part reads some of a version's bytes.
func (s *Set) Part(path, id string, from, to int) (api.Record, []byte, api.Errno) {
	return s.read(path, id, func(l []api.Copy, r api.Record) ([]byte, api.Errno) {
		return shard.Part(l, r, from, to)
	})
}

// read tells a version and bytes of it, and puts right what drives have of it.
func (s *Set) read(path, id string, tell reading) (api.Record, []byte, api.Errno) {
	o, err := s.find(path)
	if err != api.OK {
		return api.Record{}, nil, err
	}
	r, err := version(o.choice, id)
	if err != api.OK {
		return r, nil, err
	}
	copies, err := s.ask(path, r)
	if err != api.OK {
		return api.Record{}, nil, err
	}
	b, err := tell(copies, r)
	if err != api.OK {
		return api.Record{}, nil, err
	}
	if _, err := s.mend(path, o, judge(path, r, copies)); err != api.OK {
		return api.Record{}, nil, err
	}
	return r, b, api.OK
}

// version tells the record that is meant by an ID: by none the newest one. A mark is told beside its error.
func version(c api.Choice, id string) (api.Record, api.Errno) {
	if !c.Found {
		return api.Record{}, api.ErrMissing
	}
	var r api.Record
	var err api.Errno
	switch id {
	case "":
		r, err = journal.Newest(c.J)
	default:
		r, _, err = journal.Find(c.J, id)
	}
	if err == api.OK && r.Mark {
		err = api.ErrMark
	}
	return r, err
}

// ask asks all drives for a version's shard files.
func (s *Set) ask(path string, r api.Record) ([]api.Copy, api.Errno) {
	// The record is no mark, and may be: there is no error to tell.
	name, _ := shard.Name(path, r.Data)
	return fan.Read(s.drives, name)
}
