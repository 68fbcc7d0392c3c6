package fan

import (
	"iter"
	"slices"
	"strings"

	"stowage/api"
	"stowage/drive"
)

// commit is files on their way to drives: what each drive is to have, and whether it has not failed.
type commit struct {
	drives []*drive.Drive
	files  [][]api.File
	well   []bool
}

// Commit writes files on all drives, or on none.
func Commit(l []*drive.Drive, files [][]api.File, need int) ([]bool, api.Errno) {
	if err := checkCommit(l, files, need); err != api.OK {
		return nil, err
	}
	c := commit{drives: l, files: files, well: slices.Repeat([]bool{true}, len(l))}
	// None is finished before all are staged: whatever stops the call once a file has its name, the others can be given theirs behind a crash.
	if err := c.forFiles(stage); err != nil {
		return nil, told(err)
	}
	if c.count() < need {
		if err := c.unstage(func(i int) bool { return true }); err != nil {
			return nil, told(err)
		}
		return nil, api.ErrQuorum
	}
	if err := c.forFiles(func(d *drive.Drive, f api.File) api.Errno { return finish(d, f.Name) }); err != nil {
		return nil, told(err)
	}
	if err := c.unstage(func(i int) bool { return !c.well[i] }); err != nil {
		return nil, told(err)
	}
	return c.well, api.OK
}

// checkCommit tells what stands against a Commit.
func checkCommit(l []*drive.Drive, files [][]api.File, need int) api.Errno {
	if err := checkDrives(l); err != api.OK {
		return err
	}
	if len(files) != len(l) || need < 1 || need > len(l) {
		return api.ErrArg
	}
	if slices.ContainsFunc(files, func(list []api.File) bool { return len(list) > api.MaxFiles }) {
		return api.ErrLong
	}
	if slices.ContainsFunc(files, misnamed) {
		return api.ErrName
	}
	return api.OK
}

// misnamed tells whether files of one drive have names that they may not have, or two of them one.
func misnamed(list []api.File) bool {
	for i, f := range list {
		again := func(ahead api.File) bool { return ahead.Name == f.Name }
		if !mayStage(f.Name) || slices.ContainsFunc(list[:i], again) {
			return true
		}
	}
	return false
}

// mayStage tells whether a file of that name may be staged.
func mayStage(name string) bool {
	return drive.Name(name) && !strings.HasPrefix(name, api.Staged) && drive.Name(staged(name))
}

// staged tells the name of a file while it is staged.
func staged(name string) string { return api.Staged + name }

// stage lays a file under its staged name, so that it outlives crashes.
func stage(d *drive.Drive, f api.File) api.Errno {
	if err := d.Write(staged(f.Name), f.B); err != api.OK {
		return err
	}
	return d.Sync(staged(f.Name))
}

// finish gives a staged file its name.
func finish(d *drive.Drive, name string) api.Errno { return d.Rename(staged(name), name) }

// working yields the drives that have not failed when their turn comes.
func (c *commit) working() iter.Seq2[int, *drive.Drive] {
	return func(yield func(i int, d *drive.Drive) bool) {
		for i, d := range each(c.drives) {
			if c.well[i] && !yield(i, d) {
				return
			}
		}
	}
}

// forFiles does the same to each file of each drive that has not failed; a drive that answers an error has failed, and its other files are left as they are.
func (c *commit) forFiles(do func(d *drive.Drive, f api.File) api.Errno) error {
	var err error
drives:
	for i, d := range c.working() {
		for _, f := range c.files[i] {
			answer := do(d, f)
			if err = breaks(answer); err != nil {
				break drives
			}
			if answer != api.OK {
				c.well[i] = false
				continue drives
			}
		}
	}
	return err
}

// count tells how many drives have not failed.
func (c *commit) count() int {
	n := 0
	for range c.working() {
		n++
	}
	return n
}

// unstage deletes the staged files of the drives that are meant.
func (c *commit) unstage(meant func(i int) bool) error {
	_, err := deleteEach(c.drives, func(i int, d *drive.Drive) ([]string, error) {
		if !meant(i) {
			return nil, nil
		}
		var names []string
		for _, f := range c.files[i] {
			names = append(names, staged(f.Name))
		}
		return names, nil
	})
	return err
}
