package pool_test

import (
	"bytes"
	"crypto/sha256"
	"encoding/binary"
	"fmt"
	"maps"
	"slices"
	"strings"
	"testing"

	"stowage/api"
	"stowage/digest"
	"stowage/drive"
	"stowage/erasure"
	"stowage/journal"
	"stowage/pool"
	"stowage/record"
)

type drives = []*drive.Drive

// shape is of how many data and parity shards sets are, and how many there are.
type shape struct{ k, m, sets int }

// each is how many drives a set has, all how many there are.
func (s shape) each() int { return s.k + s.m }
func (s shape) all() int  { return s.sets * s.each() }

// places are where in a list the drives of a set stand.
func (s shape) places(set int) []int {
	var l []int
	for i := range s.each() {
		l = append(l, set*s.each()+i)
	}
	return l
}

// call is what a pool is asked for; Paths has its prefix as a path.
type call struct {
	what     string
	path, id string
	r        api.Record
	b        []byte
	from, to int
}

// answer is what any call answers.
type answer struct {
	r     api.Record
	b     []byte
	c     api.Choice
	n     int
	paths []string
	err   api.Errno
}

// The calls, as tests write them.
func look(path string) call                        { return call{what: "Look", path: path} }
func put(path string, r api.Record, b []byte) call { return call{what: "Put", path: path, r: r, b: b} }
func get(path, id string) call                     { return call{what: "Get", path: path, id: id} }
func part(path, id string, from, to int) call {
	return call{"Part", path, id, api.Record{}, nil, from, to}
}
func drop(path, id string) call    { return call{what: "Drop", path: path, id: id} }
func heal(path string) call        { return call{what: "Heal", path: path} }
func paths(prefix string) call     { return call{what: "Paths", path: prefix} }
func healAll() call                { return call{what: "HealAll"} }
func refused(err api.Errno) answer { return answer{err: err} }

func (c call) String() string {
	return fmt.Sprintf("%s(%.20q, %q, %q %.6q, %d bytes)", c.what, c.path, c.id, c.r.ID, c.r.Data, len(c.b))
}

// ask asks a pool.
func ask(p *pool.Pool, c call) (a answer) {
	switch c.what {
	case "Look":
		a.c, a.err = p.Look(c.path)
	case "Put":
		a.r, a.err = p.Put(c.path, c.r, c.b)
	case "Get":
		a.r, a.b, a.err = p.Get(c.path, c.id)
	case "Part":
		a.r, a.b, a.err = p.Part(c.path, c.id, c.from, c.to)
	case "Drop":
		a.r, a.err = p.Drop(c.path, c.id)
	case "Heal":
		a.n, a.err = p.Heal(c.path)
	case "Paths":
		a.paths, a.err = p.Paths(c.path)
	case "HealAll":
		a.n, a.err = p.HealAll()
	}
	return a
}

// model is the chapter's words said over drives, by sets alone: formats are written and read here by hand.
type model struct {
	l drives
	s shape
}

// set is one of its sets.
func (m model) set(n int) *erasure.Set {
	s, _ := erasure.New(m.l[n*m.s.each():(n+1)*m.s.each()], m.s.k)
	return s
}

// setOf is which set has a path.
func setOf(path string, sets int) int {
	d := sha256.Sum256([]byte(path))
	return int(binary.BigEndian.Uint64(d[:8]) % uint64(sets))
}

// do is what a call is to answer: of a path that may be one.
func (m model) do(c call) (a answer) {
	s := m.set(setOf(c.path, m.s.sets))
	switch c.what {
	case "Look":
		a.c, a.err = s.Look(c.path)
	case "Put":
		a.r, a.err = s.Put(c.path, c.r, c.b)
	case "Get":
		a.r, a.b, a.err = s.Get(c.path, c.id)
	case "Part":
		a.r, a.b, a.err = s.Part(c.path, c.id, c.from, c.to)
	case "Drop":
		a.r, a.err = s.Drop(c.path, c.id)
	case "Heal":
		a.n, a.err = s.Heal(c.path)
	case "Paths":
		return m.paths(c.path)
	case "HealAll":
		return m.healAll()
	}
	return a
}

func (m model) paths(prefix string) answer {
	some := map[string]int{}
	for n := range m.s.sets {
		l, err := m.set(n).Paths()
		if err != api.OK {
			return refused(err)
		}
		for _, path := range l {
			if strings.HasPrefix(path, prefix) {
				some[path]++
			}
		}
	}
	return answer{paths: slices.Sorted(maps.Keys(some))}
}

func (m model) healAll() (a answer) {
	var todo []func() (int, api.Errno)
	for n := range m.s.sets {
		s := m.set(n)
		l, err := s.All()
		if err != api.OK {
			return refused(err)
		}
		for _, path := range l {
			todo = append(todo, func() (int, api.Errno) { return s.Heal(path) })
		}
	}
	for _, do := range todo {
		n, err := do()
		if err != api.OK && err != api.ErrMissing {
			return refused(err)
		}
		a.n += n
	}
	return a
}

// written are the bytes of a format, of which the digest is right, whether it may be or not.
func written(k, m, sets, set, at int) []byte {
	b := []byte{'S', 'F', '1', byte(k), byte(m), byte(sets), byte(set), byte(at)}
	d := sha256.Sum256(b)
	return append(b, d[:]...)
}

// formats are the bytes of the formats of all drives.
func (s shape) formats() [][]byte {
	var all [][]byte
	for i := range s.all() {
		all = append(all, written(s.k, s.m, s.sets, i/s.each(), i%s.each()))
	}
	return all
}

// mayBe is whether there are formats of it.
func (s shape) mayBe() bool {
	return s.k >= 1 && s.k <= 15 && s.m >= 1 && s.m <= 15 && s.k+s.m <= 16 && s.sets >= 1 && s.sets <= 4
}

// isFormat is whether bytes are those of a format that may be.
func isFormat(b []byte) bool {
	if len(b) != 40 || string(b[:3]) != "SF1" {
		return false
	}
	s := shape{int(b[3]), int(b[4]), int(b[5])}
	d := sha256.Sum256(b[:8])
	return bytes.Equal(d[:], b[8:]) && s.mayBe() && int(b[6]) < s.sets && int(b[7]) < s.each()
}

// open is what Open is to answer of drives that are there.
func (m model) open() api.Errno {
	if !m.s.mayBe() || len(m.l) != m.s.all() {
		return api.ErrArg
	}
	var fresh []int
	strange, answering := false, make([]int, m.s.sets)
	own := m.s.formats()
	for i, d := range m.l {
		b, err := d.Read("format")
		if err == api.ErrBroken {
			return err
		}
		if err == api.OK || err == api.ErrMissing {
			answering[i/m.s.each()]++
		}
		switch {
		case err == api.ErrMissing || err == api.OK && !isFormat(b):
			fresh = append(fresh, i)
		case err == api.OK && !bytes.Equal(b, own[i]):
			strange = true
		}
	}
	switch {
	case strange:
		return api.ErrState
	case slices.Min(answering) < m.s.k:
		return api.ErrQuorum
	}
	for _, i := range fresh {
		if give(m.l[i], own[i]) == api.ErrBroken {
			return api.ErrBroken
		}
	}
	for n := range m.s.sets {
		if err := m.set(n).Recover(); err != api.OK {
			return err
		}
	}
	return api.OK
}

// give lays a format as a file is laid on one drive: written beside, synced, and given its name; what is not laid is let go of.
func give(d *drive.Drive, b []byte) api.Errno {
	const staged = "tmp/format"
	err := d.Write(staged, b)
	if err == api.OK {
		err = d.Sync(staged)
	}
	if err == api.OK {
		return d.Rename(staged, "format")
	}
	if err != api.ErrBroken {
		if answer := d.Delete(staged); answer == api.ErrBroken {
			return answer
		}
	}
	return err
}

// file is what a drive has under a name.
type file struct {
	b     string
	loose bool
}

// filesOf tells what a drive has, also one that does not answer.
func filesOf(d *drive.Drive) map[string]file {
	loose := d.Loose()
	c := d.Clone()
	c.Crash(slices.Repeat([]bool{true}, len(loose)))
	c.Offline(false)
	all := map[string]file{}
	l, _ := c.List("")
	for _, name := range l {
		b, _ := c.Read(name)
		all[name] = file{string(b), slices.Contains(loose, name)}
	}
	return all
}

// namesOf are the names of a drive's files, rising.
func namesOf(d *drive.Drive) []string { return slices.Sorted(maps.Keys(filesOf(d))) }

// shown is files as a line: journals are told by what they say.
func shown(files map[string]file) string {
	var all []string
	for _, name := range slices.Sorted(maps.Keys(files)) {
		f := files[name]
		text := fmt.Sprintf("%d bytes %.8x", len(f.b), f.b)
		if j, err := journal.Read([]byte(f.b)); err == api.OK {
			text = fmt.Sprintf("Seq %d with %d", j.Seq, len(j.Records))
		}
		all = append(all, fmt.Sprintf("%s: %s %v", name, text, f.loose))
	}
	return strings.Join(all, "; ")
}

// wantFiles asks whether drives have just the same files, loose alike.
func wantFiles(t *testing.T, what string, l, wanted drives) {
	t.Helper()
	for i, d := range l {
		if got, want := filesOf(d), filesOf(wanted[i]); !maps.Equal(got, want) {
			t.Errorf("%s: drive %d has %s; want %s", what, i, shown(got), shown(want))
		}
	}
}

// wantDrives asks whether drives are just the same, and made as many changes.
func wantDrives(t *testing.T, what string, l, wanted drives) {
	t.Helper()
	wantFiles(t, what, l, wanted)
	for i, d := range l {
		if d.Ops() != wanted[i].Ops() || d.Up() != wanted[i].Up() {
			t.Errorf("%s: drive %d made %d changes, up: %v; want %d, %v", what, i, d.Ops(), d.Up(), wanted[i].Ops(), wanted[i].Up())
		}
	}
}

// sameChoice is whether two choices are the same, nil lists being empty ones.
func sameChoice(a, b api.Choice) bool {
	return a.Found == b.Found && a.Answers == b.Answers && a.Votes == b.Votes && journal.Same(a.J, b.J) && bytes.Equal(a.B, b.B) && slices.Equal(a.Has, b.Has)
}

// sameAnswer is whether two answers are the same.
func sameAnswer(a, b answer) bool {
	return a.err == b.err && a.n == b.n && record.Same(a.r, b.r) && bytes.Equal(a.b, b.b) && slices.Equal(a.paths, b.paths) && sameChoice(a.c, b.c)
}

func (a answer) String() string {
	return fmt.Sprintf("%v, %d, %d bytes %.20q, %.20q, %v %d %v %d %d, %v", a.r, a.n, len(a.b), a.b, a.paths, a.c.Found, a.c.J.Seq, a.c.Has, a.c.Answers, a.c.Votes, a.err)
}

// clones are drives that are the same, without fuses.
func clones(l drives) drives {
	var all drives
	for _, d := range l {
		all = append(all, d.Clone())
	}
	return all
}

// some are what stands at those places of a list.
func some[T any](l []T, places []int) []T {
	var all []T
	for _, i := range places {
		all = append(all, l[i])
	}
	return all
}

// fuse is behind how many changes some of the drives stop, by their places.
type fuse struct {
	places []int
	n      int
}

// light gives drives that fuse, if there is one.
func (f *fuse) light(l drives) {
	if f != nil {
		drive.Fuse(some(l, f.places), f.n)
	}
}

func (f *fuse) String() string {
	if f == nil {
		return "no fuse"
	}
	return fmt.Sprintf("a fuse of %d on %v", f.n, f.places)
}

// everywhere is a fuse of all drives.
func (s shape) everywhere(n int) *fuse {
	f := &fuse{n: n}
	for i := range s.all() {
		f.places = append(f.places, i)
	}
	return f
}

// step asks a pool of these drives, behind a fuse, and the model of their clones for the same, and holds both against each other.
func step(t *testing.T, what string, p *pool.Pool, l drives, c call, f *fuse) answer {
	t.Helper()
	k, m, sets := p.Size()
	plain := model{clones(l), shape{k, m, sets}}
	f.light(l)
	f.light(plain.l)
	got, wanted := ask(p, c), plain.do(c)
	what = fmt.Sprintf("%s: %v, %v", what, c, f)
	if !sameAnswer(got, wanted) {
		t.Errorf("%s: %v; want %v", what, got, wanted)
	}
	wantDrives(t, what, l, plain.l)
	return got
}

// opens opens drives, behind a fuse, and holds answer and drives against the model of their clones.
func opens(t *testing.T, what string, l drives, s shape, f *fuse) (*pool.Pool, api.Errno) {
	t.Helper()
	plain := model{clones(l), s}
	f.light(l)
	f.light(plain.l)
	p, err := pool.Open(l, s.k, s.m, s.sets)
	wanted := plain.open()
	what = fmt.Sprintf("%s: Open of %v, %v", what, s, f)
	if err != wanted || (p != nil) != (wanted == api.OK) {
		t.Errorf("%s: %v, %v; want %v", what, p != nil, err, wanted)
	}
	if k, m, sets := p.Size(); err == api.OK && s != (shape{k, m, sets}) {
		t.Errorf("%s: Size: %d, %d, %d", what, k, m, sets)
	}
	wantDrives(t, what, l, plain.l)
	return p, err
}

// opened is a pool of these drives.
func opened(t *testing.T, l drives, s shape) *pool.Pool {
	t.Helper()
	p, err := pool.Open(l, s.k, s.m, s.sets)
	if err != api.OK {
		t.Fatalf("no pool of %v: %v", s, err)
	}
	return p
}

// made are drives of so many bytes.
func made(t *testing.T, n, size int) drives {
	t.Helper()
	var l drives
	for range n {
		d, err := drive.New(size)
		if err != api.OK {
			t.Fatal(err)
		}
		l = append(l, d)
	}
	return l
}

// blank is a drive with room that has nothing.
func blank(t *testing.T) *drive.Drive { return made(t, 1, 1<<22)[0] }

// fresh are drives with room, and their pool.
func fresh(t *testing.T, s shape) (drives, *pool.Pool) {
	t.Helper()
	l := made(t, s.all(), 1<<22)
	return l, opened(t, l, s)
}

// version is a record of an ID whose data name is a number.
func version(id string, n int) api.Record {
	return api.Record{ID: id, Time: n, ETag: "0", Data: fmt.Sprintf("%032x", n)}
}

// mark is a mark of an ID.
func mark(id string, n int) api.Record { return api.Record{ID: id, Time: n, Mark: true} }

// whole is a record as a pool keeps it.
func whole(r api.Record, b []byte, s shape) api.Record {
	if !r.Mark {
		r.Size, r.K, r.M, r.Sum = len(b), s.k, s.m, digest.Sum(b)
	}
	return r
}

// shardName is the name of the shard files of a version of a path.
func shardName(path string, n int) string { return "s/" + path + "-" + version("", n).Data }

// text are so many bytes, unlike ones of unlike numbers.
func text(n, number int) []byte {
	b := make([]byte, n)
	for i := range b {
		b[i] = byte(i*7 + number*13 + i>>8)
	}
	return b
}

// must asks for what is answered with OK.
func must(t *testing.T, p *pool.Pool, calls ...call) {
	t.Helper()
	for _, c := range calls {
		if a := ask(p, c); a.err != api.OK {
			t.Fatalf("%v: %v", c, a.err)
		}
	}
}

// want asks for an error.
func want(t *testing.T, what string, got, wanted api.Errno) {
	t.Helper()
	if got != wanted {
		t.Errorf("%s: %v; want %v", what, got, wanted)
	}
}

// reads asks whether a version is got, with these bytes.
func reads(t *testing.T, what string, p *pool.Pool, path, id string, b []byte) {
	t.Helper()
	if r, got, err := p.Get(path, id); err != api.OK || !bytes.Equal(got, b) || r.Size != len(b) {
		t.Errorf("%s: Get(%.20q, %q): %v, %d bytes, %v; want %d bytes", what, path, id, r, len(got), err, len(b))
	}
}

// pathsOf tells of each set so many paths that it has, rising.
func pathsOf(sets, n int) [][]string {
	all := make([][]string, sets)
	for i, missing := 0, sets*n; missing > 0; i++ {
		path := fmt.Sprintf("p%03d", i)
		if of := setOf(path, sets); len(all[of]) < n {
			all[of] = append(all[of], path)
			missing--
		}
	}
	return all
}

// away are drives of which those are offline.
func away(l drives, places ...int) {
	for _, d := range some(l, places) {
		d.Offline(true)
	}
}

// out are drives of which those are out.
func out(l drives, places ...int) {
	for _, d := range some(l, places) {
		drive.Fuse(drives{d}, 0)
		d.Offline(false)
		d.Full(false)
		d.Write("out", nil)
	}
}

// back are drives of which none is offline, or full.
func back(l drives) {
	for _, d := range l {
		d.Offline(false)
		d.Full(false)
	}
}

// raw lays a synced file on a drive.
func raw(t *testing.T, d *drive.Drive, name string, b []byte) {
	t.Helper()
	if err := d.Write(name, b); err != api.OK {
		t.Fatalf("%q is not written: %v", name, err)
	}
	d.Sync(name)
}

// bootOf is a drive's boot number, -1 if it has no boot file that is read.
func bootOf(d *drive.Drive) int {
	f, there := filesOf(d)["boot"]
	j, err := journal.Read([]byte(f.b))
	if !there || err != api.OK {
		return -1
	}
	return j.Seq
}

// choices are all ways to take some of n, as lists of places.
func choices(n int) [][]int {
	var all [][]int
	for bits := range 1 << n {
		var one []int
		for i := range n {
			if bits>>i&1 == 1 {
				one = append(one, i)
			}
		}
		all = append(all, one)
	}
	return all
}
