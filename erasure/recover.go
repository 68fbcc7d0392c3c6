package erasure

import (
	"bytes"
	"slices"

	"stowage/api"
	"stowage/drive"
	"stowage/fan"
	"stowage/journal"
)

// Recover puts right what a crash left: what was on its way is brought to an end where as many drives as a write needs have it, and else let go of.
func (s *Set) Recover() api.Errno {
	if !s.made() {
		return api.ErrNil
	}
	paths, err := s.under(api.Staged + journals)
	if err != api.OK {
		return err
	}
	boots, err := s.boots()
	if err != api.OK {
		return err
	}
	last := slices.Max(boots)
	for _, path := range paths {
		if err := s.finish(path, func(i int) bool { return boots[i] == last }); err != api.OK {
			return err
		}
	}
	if _, err := fan.Clean(s.drives, ""); err != api.OK {
		return err
	}
	if err := s.sweep(); err != api.OK {
		return err
	}
	return s.boot(last)
}

// boots tells how often each drive was there when its set was put right.
func (s *Set) boots() ([]int, api.Errno) {
	copies, err := fan.Read(s.drives, api.BootName)
	if err != api.OK {
		return nil, err
	}
	boots := make([]int, len(copies))
	for i, c := range copies {
		// What is no journal, or stands beside an error, is read as none, of Seq 0.
		j, _ := journal.Read(c.B)
		boots[i] = j.Seq
	}
	return boots, api.OK
}

// boot counts one more time that the set was put right, on the drives that are there: what others have staged is older by it.
func (s *Set) boot(last int) api.Errno {
	b, err := journal.Bytes(api.Journal{Seq: last + 1})
	if err != api.OK {
		// There is no number behind the last one.
		return api.OK
	}
	file := []api.File{{Name: api.BootName, B: b}}
	_, err = give(s.drives, slices.Repeat([][]api.File{file}, len(s.drives)))
	return err
}

// finish gives the staged files of a path their names, where enough drives that count have the same journal. A finishing changes what drives have under both names: each drive is asked for what it has staged when its turn comes, and all drives are asked anew for each journal.
func (s *Set) finish(path string, counts func(i int) bool) api.Errno {
	var looked []api.Copy
	for i := range s.drives {
		own, err := fan.Read(s.drives[i:i+1], api.Staged+journals+path)
		if err != api.OK {
			return err
		}
		b := own[0].B
		// What stands beside an error is none.
		j, err := journal.Read(b)
		if err != api.OK || has(looked, b) {
			continue
		}
		looked = append(looked, own[0])
		l, err := s.having(path, b, counts)
		if err != api.OK {
			return err
		}
		if len(l) <= s.k {
			continue
		}
		if err := finishOn(l, append(shardNames(path, j.Records...), journals+path)); err != api.OK {
			return err
		}
	}
	return api.OK
}

// having tells the drives that count, and that have just these bytes as a path's journal now, staged or finished.
func (s *Set) having(path string, b []byte, counts func(i int) bool) ([]*drive.Drive, api.Errno) {
	staged, err := fan.Read(s.drives, api.Staged+journals+path)
	if err != api.OK {
		return nil, err
	}
	finished, err := fan.Read(s.drives, journals+path)
	if err != api.OK {
		return nil, err
	}
	var l []*drive.Drive
	for i, d := range s.drives {
		if counts(i) && (has(staged[i:i+1], b) || has(finished[i:i+1], b)) {
			l = append(l, d)
		}
	}
	return l, api.OK
}

// has tells whether a drive answered with these bytes.
func has(l []api.Copy, b []byte) bool {
	return slices.ContainsFunc(l, func(c api.Copy) bool { return c.Err == api.OK && bytes.Equal(c.B, b) })
}

// finishOn gives staged files their names, drive by drive.
func finishOn(l []*drive.Drive, names []string) api.Errno {
	for _, d := range l {
		if err := fan.Finish(d, names); err != api.OK {
			return err
		}
	}
	return api.OK
}

// sweep deletes the shard files that no journal tells of.
func (s *Set) sweep() api.Errno {
	paths, err := s.under(journals)
	if err != api.OK {
		return err
	}
	told := map[string]int{}
	for path, c := range s.objects(paths, &err) {
		for _, name := range shardNames(path, c.J.Records...) {
			told[name]++
		}
	}
	if err != api.OK {
		return err
	}
	for _, d := range s.drives {
		names, _ := d.List(shards)
		for _, name := range names {
			if told[name] > 0 {
				continue
			}
			if err := d.Delete(name); err != api.OK {
				return err
			}
		}
	}
	return api.OK
}
