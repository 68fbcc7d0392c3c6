package erasure

import (
	"slices"

	"stowage/api"
	"stowage/digest"
	"stowage/fan"
	"stowage/journal"
	"stowage/record"
	"stowage/shard"
)

// Put lays a version, or a mark.
func (s *Set) Put(path string, r api.Record, b []byte) (api.Record, api.Errno) {
	if err := s.check(path); err != api.OK {
		return api.Record{}, err
	}
	if len(b) > api.MaxData {
		return api.Record{}, api.ErrLong
	}
	r, err := s.filled(r, b)
	if err != api.OK {
		return api.Record{}, err
	}
	o, err := s.look(path)
	if err != api.OK {
		return api.Record{}, err
	}
	if taken(o.choice.J, r) {
		return api.Record{}, api.ErrThere
	}
	j, err := journal.Add(o.choice.J, r)
	if err != api.OK {
		return api.Record{}, err
	}
	if err := s.commit(path, j, s.lay(path, r, b)); err != api.OK {
		return api.Record{}, err
	}
	// Where there is none of its ID, nothing is found, and nothing let go of.
	old, _, _ := journal.Find(o.choice.J, r.ID)
	return s.done(path, old, r)
}

// filled tells the record that is kept: with what the bytes and the set say of a version, if it is no mark.
func (s *Set) filled(r api.Record, b []byte) (api.Record, api.Errno) {
	if r.Mark && len(b) > 0 {
		return api.Record{}, api.ErrArg
	}
	if !r.Mark {
		r.Size, r.Sum = len(b), digest.Sum(b)
		r.K, r.M = s.Size()
	}
	if err := record.Check(r); err != api.OK {
		return api.Record{}, err
	}
	return record.Copy(r), api.OK
}

// taken tells whether a version's shard files would stand where another one's do.
func taken(j api.Journal, r api.Record) bool {
	return !r.Mark && slices.ContainsFunc(j.Records, func(other api.Record) bool { return other.Data == r.Data })
}

// lay tells the shard files of a version, one of each drive; of a mark there are none.
func (s *Set) lay(path string, r api.Record, b []byte) []api.File {
	if r.Mark {
		return nil
	}
	// The path, the record and the bytes are known to be such as may be: there is no error to tell.
	name, _ := shard.Name(path, r.Data)
	all, _ := shard.Lay(b, r.K, r.M)
	files := make([]api.File, len(all))
	for i, file := range all {
		files[i] = api.File{Name: name, B: file}
	}
	return files
}

// commit lays a journal on all drives, each one's shard file, if there are any, ahead of it: a journal is to tell of no version that is not there.
func (s *Set) commit(path string, j api.Journal, laid []api.File) api.Errno {
	// What Add and Remove tell may be: there is no error to tell.
	b, _ := journal.Bytes(j)
	files := make([][]api.File, len(s.drives))
	for i := range files {
		if laid != nil {
			files[i] = append(files[i], laid[i])
		}
		files[i] = append(files[i], api.File{Name: journals + path, B: b})
	}
	_, err := fan.Commit(s.drives, files, s.k+1)
	return err
}

// done lets go of the shard files of a version that the journal has no more, and tells the record that a call is to answer.
func (s *Set) done(path string, old, r api.Record) (api.Record, api.Errno) {
	if _, err := fan.Delete(s.drives, shardNames(path, old)); err != api.OK {
		return api.Record{}, err
	}
	return r, api.OK
}

// shardNames tells the names of versions' shard files, in order: marks, and what is no record, have none.
func shardNames(path string, l ...api.Record) []string {
	var names []string
	for _, r := range l {
		if name, err := shard.Name(path, r.Data); err == api.OK {
			names = append(names, name)
		}
	}
	return names
}

// Drop takes a version out.
func (s *Set) Drop(path, id string) (api.Record, api.Errno) {
	o, err := s.find(path)
	if err != api.OK {
		return api.Record{}, err
	}
	if !o.choice.Found {
		return api.Record{}, api.ErrMissing
	}
	j, err := journal.Remove(o.choice.J, id)
	if err != api.OK {
		return api.Record{}, err
	}
	if err := s.commit(path, j, nil); err != api.OK {
		return api.Record{}, err
	}
	// What was removed was there: there is no error to tell.
	r, _, _ := journal.Find(o.choice.J, id)
	return s.done(path, r, r)
}
