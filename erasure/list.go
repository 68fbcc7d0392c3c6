package erasure

import (
	"iter"
	"strings"

	"stowage/api"
	"stowage/fan"
)

// All tells all objects of which a drive has a journal.
func (s *Set) All() ([]string, api.Errno) {
	if !s.made() {
		return nil, api.ErrNil
	}
	return s.under(journals)
}

// Paths tells all objects that have versions.
func (s *Set) Paths() ([]string, api.Errno) {
	all, err := s.All()
	if err != api.OK {
		return nil, err
	}
	var paths []string
	for path, c := range s.objects(all, &err) {
		if len(c.J.Records) > 0 {
			paths = append(paths, path)
		}
	}
	if err != api.OK {
		return nil, err
	}
	return paths, api.OK
}

// under tells the paths that stand behind a prefix in names of some drive's files, rising, if as many drives are up as are needed to read.
func (s *Set) under(prefix string) ([]string, api.Errno) {
	// That a drive is out is told by its answer, ahead of how many are up.
	names, err := fan.Names(s.drives, prefix)
	if err != api.OK {
		return nil, err
	}
	if s.up() < s.k {
		return nil, api.ErrQuorum
	}
	var paths []string
	for _, name := range names {
		if path := strings.TrimPrefix(name, prefix); Path(path) {
			paths = append(paths, path)
		}
	}
	return paths, api.OK
}

// up tells how many drives are.
func (s *Set) up() int {
	n := 0
	for _, d := range s.drives {
		if d.Up() {
			n++
		}
	}
	return n
}

// objects yields paths and what counts of them; the first error ends it, and is carried out.
func (s *Set) objects(paths []string, failed *api.Errno) iter.Seq2[string, api.Choice] {
	return func(yield func(path string, c api.Choice) bool) {
		for _, path := range paths {
			o, err := s.look(path)
			if err != api.OK {
				*failed = err
				return
			}
			if !yield(path, o.choice) {
				return
			}
		}
	}
}
