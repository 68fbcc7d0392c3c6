package fan_test

import (
	"fmt"
	"maps"
	"math/rand"
	"slices"
	"sort"
	"strings"
	"testing"

	"stowage/api"
	"stowage/drive"
)

type drives = []*drive.Drive

// file is what a drive has under a name.
type file struct {
	b     string
	loose bool
}

// box is what a drive is, and what it has.
type box struct {
	size               int
	offline, full, out bool
	files              map[string]file
	ops                int
}

// change is one that a call makes: on which drive, of which kind, of which file.
type change struct {
	at       int
	kind     string
	name, to string
	b        string
}

// on is a box of 1000 bytes with synced files, whose bytes are their names.
func on(names ...string) box {
	b := box{size: 1000, files: map[string]file{}}
	for _, name := range names {
		b.files[name] = file{b: name}
	}
	return b
}

func (b box) sized(n int) box { b.size = n; return b }
func (b box) away() box       { b.offline = true; return b }
func (b box) filled() box     { b.full = true; return b }
func (b box) broken() box     { b.out = true; return b }
func (b box) used() (n int)   { return b.without("") }
func (b box) names() []string { return slices.Sorted(maps.Keys(b.files)) }

// without tells how many bytes all files but that one have.
func (b box) without(name string) int {
	n := 0
	for other, f := range b.files {
		if other != name {
			n += len(f.b)
		}
	}
	return n
}

// holding is the same box with one more file.
func (b box) holding(name, text string, loose bool) box {
	b.files = maps.Clone(b.files)
	b.files[name] = file{text, loose}
	return b
}

// copied is the same box with files of its own.
func (b box) copied() box {
	b.files = maps.Clone(b.files)
	return b
}

// loose are the names of files that are not synced, rising.
func (b box) loose() []string {
	return slices.DeleteFunc(b.names(), func(name string) bool { return !b.files[name].loose })
}

// begin are the names that begin so, rising.
func (b box) begin(prefix string) []string {
	return slices.DeleteFunc(b.names(), func(name string) bool { return !strings.HasPrefix(name, prefix) })
}

// takes tells how many of these files find room under their staged names, one behind the other.
func (b box) takes(list []api.File) int {
	b = b.copied()
	for i, f := range list {
		name := "tmp/" + f.Name
		if b.offline || b.full || b.without(name)+len(f.B) > b.size {
			return i
		}
		b.files[name] = file{b: string(f.B)}
	}
	return len(list)
}

// make makes the drive of a box.
func (b box) make(t *testing.T) *drive.Drive {
	t.Helper()
	d, err := drive.New(b.size)
	for _, name := range b.names() {
		f := b.files[name]
		if err == api.OK {
			err = d.Write(name, []byte(f.b))
		}
		if err == api.OK && !f.loose {
			err = d.Sync(name)
		}
	}
	if err != api.OK {
		t.Fatalf("no drive of %v: %v", b, err)
	}
	if b.out {
		drive.Fuse(drives{d}, 0)
		if err := d.Write("probe", nil); err != api.ErrBroken {
			t.Fatalf("the drive is not out: %v", err)
		}
	}
	d.Offline(b.offline)
	d.Full(b.full)
	return d
}

// makeAll makes the drives of boxes, and tells the boxes with their counts of changes.
func makeAll(t *testing.T, boxes []box) (drives, []box) {
	t.Helper()
	var l drives
	var all []box
	for _, b := range boxes {
		d := b.make(t)
		b = b.copied()
		b.ops = d.Ops()
		l, all = append(l, d), append(all, b)
	}
	return l, all
}

// filesOf tells what a drive has, also one that does not answer.
func filesOf(d *drive.Drive) map[string]file {
	loose := d.Loose()
	c := d.Clone()
	c.Crash(slices.Repeat([]bool{true}, len(loose)))
	c.Offline(false)
	all := map[string]file{}
	l, _ := c.List("")
	for _, name := range l {
		b, _ := c.Read(name)
		all[name] = file{string(b), slices.Contains(loose, name)}
	}
	return all
}

// shown is files as a line.
func shown(files map[string]file) string {
	var all []string
	for name, f := range files {
		all = append(all, fmt.Sprintf("%.20q: %.20q %v", name, f.b, f.loose))
	}
	sort.Strings(all)
	return strings.Join(all, ", ")
}

// wantBoxes asks whether drives have just these files, loose just so, and made just so many changes.
func wantBoxes(t *testing.T, what string, l drives, wanted []box) {
	t.Helper()
	for i, d := range l {
		if got := filesOf(d); !maps.Equal(got, wanted[i].files) {
			t.Errorf("%s: drive %d has %s; want %s", what, i, shown(got), shown(wanted[i].files))
		}
		if d.Ops() != wanted[i].ops {
			t.Errorf("%s: drive %d made %d changes; want %d", what, i, d.Ops(), wanted[i].ops)
		}
	}
}

// after is boxes behind these changes.
func after(boxes []box, changes []change) []box {
	var all []box
	for _, b := range boxes {
		all = append(all, b.copied())
	}
	for _, c := range changes {
		b := &all[c.at]
		b.ops++
		f := b.files[c.name]
		switch c.kind {
		case "write":
			b.files[c.name] = file{c.b, true}
		case "sync":
			b.files[c.name] = file{b: f.b}
		case "rename":
			delete(b.files, c.name)
			b.files[c.to] = f
		case "delete":
			delete(b.files, c.name)
		}
	}
	return all
}

// crashed is a box behind a crash.
func crashed(b box, keeps []bool) box {
	loose := b.loose()
	b = b.copied()
	for i, name := range loose {
		f := b.files[name]
		delete(b.files, name)
		if i < len(keeps) && keeps[i] {
			b.files[name] = file{b: f.b}
		}
	}
	return b
}

// planCommit tells which changes a Commit makes if no fuse stops it, and what it answers: whatever it is handed may be.
func planCommit(boxes []box, files [][]api.File, need int) ([]change, []bool, api.Errno) {
	var all []change
	var well []bool
	fine := 0
	for i, b := range boxes {
		if b.out && len(files[i]) > 0 {
			return all, nil, api.ErrBroken
		}
		for _, f := range files[i][:b.takes(files[i])] {
			name := "tmp/" + f.Name
			all = append(all, change{at: i, kind: "write", name: name, b: string(f.B)}, change{at: i, kind: "sync", name: name})
		}
		well = append(well, b.takes(files[i]) == len(files[i]))
		if well[i] {
			fine++
		}
	}
	if fine < need {
		for i := range boxes {
			all = append(all, unstaged(boxes, files, i)...)
		}
		return all, nil, api.ErrQuorum
	}
	for i := range boxes {
		for _, f := range files[i] {
			if well[i] {
				all = append(all, change{at: i, kind: "rename", name: "tmp/" + f.Name, to: f.Name})
			}
		}
	}
	for i := range boxes {
		if !well[i] {
			all = append(all, unstaged(boxes, files, i)...)
		}
	}
	return all, well, api.OK
}

// unstaged are the changes by which a drive's staged files go: those that were staged, and those that stood there before.
func unstaged(boxes []box, files [][]api.File, i int) []change {
	var all []change
	for j, f := range files[i] {
		_, was := boxes[i].files["tmp/"+f.Name]
		if !boxes[i].offline && (was || j < boxes[i].takes(files[i])) {
			all = append(all, change{at: i, kind: "delete", name: "tmp/" + f.Name})
		}
	}
	return all
}

// planDelete tells which changes a Delete makes, and what it answers.
func planDelete(boxes []box, names []string) ([]change, int, api.Errno) {
	var all []change
	for i, b := range boxes {
		if b.out && len(names) > 0 {
			return all, 0, api.ErrBroken
		}
		for j, name := range names {
			_, was := b.files[name]
			if was && !b.offline && !slices.Contains(names[:j], name) {
				all = append(all, change{at: i, kind: "delete", name: name})
			}
		}
	}
	return all, len(all), api.OK
}

// planClean tells which changes a Clean makes, and what it answers.
func planClean(boxes []box, prefix string) ([]change, int, api.Errno) {
	var all []change
	for i, b := range boxes {
		if b.out {
			return all, 0, api.ErrBroken
		}
		for _, name := range b.begin("tmp/" + prefix) {
			if !b.offline {
				all = append(all, change{at: i, kind: "delete", name: name})
			}
		}
	}
	return all, len(all), api.OK
}

// planFinish tells which changes a Finish makes, and what it answers.
func planFinish(b box, names []string) ([]change, api.Errno) {
	if len(names) > 0 && b.out {
		return nil, api.ErrBroken
	}
	if len(names) > 0 && b.offline {
		return nil, api.ErrOffline
	}
	var all []change
	for _, name := range names {
		if len(name) > 508 {
			return all, api.ErrName
		}
		// What has its name by one change may be what is staged for the next one: tmp/a of tmp/tmp/a.
		if _, staged := after([]box{b}, all)[0].files["tmp/"+name]; staged {
			all = append(all, change{kind: "rename", name: "tmp/" + name, to: name})
		}
	}
	return all, api.OK
}

// planNames tells what Names answers.
func planNames(boxes []box, prefix string) ([]string, api.Errno) {
	all := map[string]int{}
	for _, b := range boxes {
		if b.out {
			return nil, api.ErrBroken
		}
		for _, name := range b.begin(prefix) {
			if !b.offline {
				all[name]++
			}
		}
	}
	return slices.Sorted(maps.Keys(all)), api.OK
}

// planRead tells what Read answers.
func planRead(boxes []box, name string) ([]api.Copy, api.Errno) {
	var all []api.Copy
	for _, b := range boxes {
		f, was := b.files[name]
		switch {
		case b.out:
			return nil, api.ErrBroken
		case b.offline:
			all = append(all, api.Copy{Err: api.ErrOffline})
		case !was:
			all = append(all, api.Copy{Err: api.ErrMissing})
		default:
			all = append(all, api.Copy{B: []byte(f.b)})
		}
	}
	return all, api.OK
}

// upTo are the changes that a fuse of these drives lets by, and whether it stops one.
func upTo(changes []change, fused []int, n int) ([]change, bool) {
	for i, c := range changes {
		if !slices.Contains(fused, c.at) {
			continue
		}
		if n == 0 {
			return changes[:i], true
		}
		n--
	}
	return changes, false
}

// some are drives by their places.
func some(l drives, places []int) drives {
	var all drives
	for _, i := range places {
		all = append(all, l[i])
	}
	return all
}

// places are the numbers below n.
func places(n int) []int {
	var all []int
	for i := range n {
		all = append(all, i)
	}
	return all
}

// of are files of such names, whose bytes are their names behind a sign that no box has by itself.
func of(names ...string) []api.File {
	var all []api.File
	for _, name := range names {
		all = append(all, api.File{Name: name, B: []byte("+" + name)})
	}
	return all
}

// alike is the same list for each of n drives.
func alike(n int, list []api.File) [][]api.File { return slices.Repeat([][]api.File{list}, n) }

// numbered are n names.
func numbered(n int) []string {
	var all []string
	for i := range n {
		all = append(all, fmt.Sprint("n", i))
	}
	return all
}

// drawnBox is a box drawn by chance.
func drawnBox(r *rand.Rand) box {
	b := box{files: map[string]file{}, offline: r.Intn(8) == 0, full: r.Intn(8) == 0, out: r.Intn(25) == 0}
	for _, name := range []string{"a", "b", "ab", "c", "tmp/a", "tmp/b", "tmp/ab", "tmp/tmp/a", "x"} {
		if r.Intn(3) == 0 {
			b.files[name] = file{strings.Repeat("o", r.Intn(4)), r.Intn(3) == 0}
		}
	}
	b.size = max(1, b.used()+r.Intn(12))
	if r.Intn(2) == 0 {
		b.size = 1000
	}
	return b
}

// drawnFiles are files of a drive drawn by chance, each name once.
func drawnFiles(r *rand.Rand) []api.File {
	names := []string{"a", "b", "ab", "c", "d"}
	r.Shuffle(len(names), func(i, j int) { names[i], names[j] = names[j], names[i] })
	var all []api.File
	for _, name := range names[:r.Intn(4)] {
		all = append(all, api.File{Name: name, B: []byte(strings.Repeat("n", r.Intn(5)))})
	}
	return all
}
