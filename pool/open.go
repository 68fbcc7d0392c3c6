package pool

import (
	"iter"
	"slices"

	"stowage/api"
	"stowage/drive"
	"stowage/erasure"
	"stowage/fan"
	"stowage/format"
)

// Open opens the sets of drives, and puts right what a crash left.
func Open(l []*drive.Drive, k, m, sets int) (*Pool, api.Errno) {
	if none(l) {
		return nil, api.ErrNil
	}
	formats, err := format.All(k, m, sets)
	if err != api.OK || len(l) != len(formats) {
		return nil, api.ErrArg
	}
	states, err := judge(l, k, m, sets)
	if err != api.OK {
		return nil, err
	}
	if err := giveFresh(l, states, formats); err != api.OK {
		return nil, err
	}
	p := &Pool{sets: make([]*erasure.Set, sets)}
	p.self = p
	for n, own := range bySet(l, k+m) {
		s, err := recovered(own, k)
		if err != api.OK {
			return nil, err
		}
		p.sets[n] = s
	}
	return p, api.OK
}

// none tells whether one of the drives is none. A fuse below 0 is given to no drive: it is asked for just because that is refused with ErrNil of such drives alone.
func none(l []*drive.Drive) bool { return drive.Fuse(l, -1) == api.ErrNil }

// bySet yields the sets' numbers, and what a list that goes over all drives has of each set's own.
func bySet[T any](l []T, size int) iter.Seq2[int, []T] {
	return func(yield func(n int, own []T) bool) {
		for n := range len(l) / size {
			if !yield(n, l[n*size:(n+1)*size]) {
				return
			}
		}
	}
}

// judge tells how each drive's format is, or what stands against opening drives of such ones.
func judge(l []*drive.Drive, k, m, sets int) ([]int, api.Errno) {
	var copies []api.Copy
	for _, own := range bySet(l, k+m) {
		answers, err := fan.Read(own, api.FormatName)
		if err != api.OK {
			return nil, err
		}
		copies = append(copies, answers...)
	}
	// There are formats of these, and as many drives: there is no error to tell.
	states, _ := format.Judge(copies, k, m, sets)
	if slices.Contains(states, api.Strange) {
		return nil, api.ErrState
	}
	for _, own := range bySet(states, k+m) {
		if answering(own) < k {
			return nil, api.ErrQuorum
		}
	}
	return states, api.OK
}

// answering tells how many drives of a set are not silent.
func answering(states []int) int {
	n := 0
	for _, state := range states {
		if state != api.Silent {
			n++
		}
	}
	return n
}

// giveFresh gives each drive that has no format that of its place. That a drive does not take it stops nobody: it is asked again when all is opened anew.
func giveFresh(l []*drive.Drive, states []int, formats []api.Format) api.Errno {
	for i, f := range formats {
		if states[i] != api.Fresh {
			continue
		}
		// It is one of format.All: there is no error to tell.
		b, _ := format.Bytes(f)
		file := api.File{Name: api.FormatName, B: b}
		if _, err := fan.Commit(l[i:i+1], [][]api.File{{file}}, 1); err == api.ErrBroken {
			return err
		}
	}
	return api.OK
}

// recovered makes a set of its drives, and puts it right.
func recovered(l []*drive.Drive, k int) (*erasure.Set, api.Errno) {
	s, err := erasure.New(l, k)
	if err != api.OK {
		return nil, err
	}
	return s, s.Recover()
}
