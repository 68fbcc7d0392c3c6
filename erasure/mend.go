package erasure

import (
	"stowage/api"
	"stowage/drive"
	"stowage/fan"
	"stowage/shard"
	"stowage/tally"
)

// verdict is how a version's shard files are: their name, what they are to be, and of each drive how its own is. One without states asks for nothing.
type verdict struct {
	name   string
	files  [][]byte
	states []int
}

// judge tells how a version's shard files are by what drives answer for them: of one that is not read there is nothing to ask for.
func judge(path string, r api.Record, copies []api.Copy) verdict {
	files, states, err := shard.Mend(copies, r)
	if err != api.OK {
		return verdict{}
	}
	name, _ := shard.Name(path, r.Data)
	return verdict{name, files, states}
}

// lacks tells whether a drive that answers is to be given its shard file.
func (v verdict) lacks(i int) bool {
	return len(v.states) > 0 && (v.states[i] == api.Gone || v.states[i] == api.Bad)
}

// mend gives each drive that answered for the journal what it lacks of a version and of the journal, and tells how many files stand there by it.
func (s *Set) mend(path string, o object, v verdict) (int, api.Errno) {
	// The choice is that of these copies: there is no error to tell.
	late, _ := tally.Behind(o.copies, o.choice)
	var l []*drive.Drive
	var files [][]api.File
drives:
	for i, c := range o.copies {
		if c.Err != api.OK && c.Err != api.ErrMissing {
			continue drives
		}
		var own []api.File
		if v.lacks(i) {
			own = append(own, api.File{Name: v.name, B: v.files[i]})
		}
		if late[i] {
			own = append(own, api.File{Name: journals + path, B: o.choice.B})
		}
		if len(own) == 0 {
			continue drives
		}
		l, files = append(l, s.drives[i]), append(files, own)
	}
	return give(l, files)
}

// give commits files on drives that lack them, and tells how many stand there by it. That a drive does not take its own stops nobody; of no drives there is nothing to do.
func give(l []*drive.Drive, files [][]api.File) (int, api.Errno) {
	well, err := fan.Commit(l, files, 1)
	if err == api.ErrBroken {
		return 0, err
	}
	n := 0
	for i, is := range well {
		if is {
			n += len(files[i])
		}
	}
	return n, api.OK
}

// Heal puts right what drives have of an object.
func (s *Set) Heal(path string) (int, api.Errno) {
	o, err := s.find(path)
	if err != api.OK {
		return 0, err
	}
	if !o.choice.Found {
		return 0, api.ErrMissing
	}
	n := 0
	for _, r := range o.choice.J.Records {
		given, err := s.healVersion(path, r)
		if err != api.OK {
			return 0, err
		}
		n += given
	}
	given, err := s.healWith(path, verdict{})
	if err != api.OK {
		return 0, err
	}
	return n + given, api.OK
}

// healVersion puts right what drives have of a version, if it is one that is read: a journal that they lack comes with it.
func (s *Set) healVersion(path string, r api.Record) (int, api.Errno) {
	if r.Mark {
		return 0, api.OK
	}
	copies, err := s.ask(path, r)
	if err != api.OK {
		return 0, err
	}
	v := judge(path, r, copies)
	if len(v.states) == 0 {
		return 0, api.OK
	}
	return s.healWith(path, v)
}

// healWith asks for the journal anew, for it may have come to drives with another version, and mends.
func (s *Set) healWith(path string, v verdict) (int, api.Errno) {
	o, err := s.look(path)
	if err != api.OK {
		return 0, err
	}
	return s.mend(path, o, v)
}
