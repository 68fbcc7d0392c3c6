package erasure_test

import (
	"bytes"
	"fmt"
	"maps"
	"slices"
	"strings"
	"testing"

	"stowage/api"
	"stowage/digest"
	"stowage/drive"
	"stowage/erasure"
	"stowage/journal"
	"stowage/record"
	"stowage/shard"
	"stowage/tally"
)

type drives = []*drive.Drive

// call is what a set is asked for.
type call struct {
	what     string
	path, id string
	r        api.Record
	b        []byte
	from, to int
}

// answer is what any call answers.
type answer struct {
	r     api.Record
	b     []byte
	c     api.Choice
	n     int
	paths []string
	err   api.Errno
}

// The calls, as tests write them.
func look(path string) call                        { return call{what: "Look", path: path} }
func put(path string, r api.Record, b []byte) call { return call{what: "Put", path: path, r: r, b: b} }
func get(path, id string) call                     { return call{what: "Get", path: path, id: id} }
func part(path, id string, from, to int) call {
	return call{"Part", path, id, api.Record{}, nil, from, to}
}
func drop(path, id string) call { return call{what: "Drop", path: path, id: id} }
func heal(path string) call     { return call{what: "Heal", path: path} }
func recovers() call            { return call{what: "Recover"} }
func allPaths() call            { return call{what: "All"} }
func withVersions() call        { return call{what: "Paths"} }
func (c call) String() string {
	return fmt.Sprintf("%s(%.20q, %q, %q %.6q, %d bytes)", c.what, c.path, c.id, c.r.ID, c.r.Data, len(c.b))
}

// ask asks a set.
func ask(s *erasure.Set, c call) (a answer) {
	switch c.what {
	case "Look":
		a.c, a.err = s.Look(c.path)
	case "Put":
		a.r, a.err = s.Put(c.path, c.r, c.b)
	case "Get":
		a.r, a.b, a.err = s.Get(c.path, c.id)
	case "Part":
		a.r, a.b, a.err = s.Part(c.path, c.id, c.from, c.to)
	case "Drop":
		a.r, a.err = s.Drop(c.path, c.id)
	case "Heal":
		a.n, a.err = s.Heal(c.path)
	case "Recover":
		a.err = s.Recover()
	case "All":
		a.paths, a.err = s.All()
	case "Paths":
		a.paths, a.err = s.Paths()
	}
	return a
}

// model is the chapter's words said over drives, one behind the other, without the layers that do so.
type model struct {
	l drives
	k int
}

// outOf is how the model leaves a call that a drive breaks.
type outOf struct{}

// unbroken is an answer of a drive that breaks nothing.
func unbroken(err api.Errno) api.Errno {
	if err == api.ErrBroken {
		panic(outOf{})
	}
	return err
}

// refused is an answer with an error alone.
func refused(err api.Errno) answer { return answer{err: err} }

// do is what a call is to answer: of a path that may be one.
func (m model) do(c call) (a answer) {
	defer func() {
		switch x := recover().(type) {
		case nil:
		case outOf:
			a = refused(api.ErrBroken)
		default:
			panic(x)
		}
	}()
	switch c.what {
	case "Look":
		_, a.c, a.err = m.journal(c.path)
	case "Put":
		return m.put(c)
	case "Get", "Part":
		return m.get(c)
	case "Drop":
		return m.drop(c)
	case "Heal":
		return m.heal(c.path)
	case "Recover":
		return refused(m.recover())
	case "All", "Paths":
		return m.list(c.what == "Paths")
	}
	return a
}

// read is what each drive answers for a file.
func (m model) read(name string) []api.Copy {
	var l []api.Copy
	for _, d := range m.l {
		b, err := d.Read(name)
		l = append(l, api.Copy{Err: unbroken(err), B: b})
	}
	return l
}

// begin are the names of all drives' files that begin so, rising.
func (m model) begin(prefix string) []string {
	all := map[string]int{}
	for _, d := range m.l {
		l, err := d.List(prefix)
		unbroken(err)
		for _, name := range l {
			all[name]++
		}
	}
	return slices.Sorted(maps.Keys(all))
}

// journal is the journal of a path: what the drives answer for it, and what counts.
func (m model) journal(path string) ([]api.Copy, api.Choice, api.Errno) {
	l := m.read("j/" + path)
	c, err := tally.Elect(l, m.k)
	return l, c, err
}

// commit is fan's: on which drives the files stand, and whether they do.
func commit(l drives, files [][]api.File, need int) ([]bool, bool) {
	well, fine := make([]bool, len(l)), 0
	for i, d := range l {
		well[i] = true
		for _, f := range files[i] {
			if unbroken(d.Write("tmp/"+f.Name, f.B)) != api.OK || unbroken(d.Sync("tmp/"+f.Name)) != api.OK {
				well[i] = false
				break
			}
		}
		if well[i] {
			fine++
		}
	}
	for i, d := range l {
		for _, f := range files[i] {
			if fine >= need && well[i] {
				unbroken(d.Rename("tmp/"+f.Name, f.Name))
			}
		}
	}
	for i, d := range l {
		for _, f := range files[i] {
			if fine < need || !well[i] {
				unbroken(d.Delete("tmp/" + f.Name))
			}
		}
	}
	return well, fine >= need
}

// write commits a journal, behind the shard files of a record, if there is one, and lets go of those of another one.
func (m model) write(path string, j api.Journal, laid [][]byte, name string, old api.Record) api.Errno {
	b, _ := journal.Bytes(j)
	files := make([][]api.File, len(m.l))
	for i := range files {
		if laid != nil {
			files[i] = append(files[i], api.File{Name: name, B: laid[i]})
		}
		files[i] = append(files[i], api.File{Name: "j/" + path, B: b})
	}
	if _, done := commit(m.l, files, m.k+1); !done {
		return api.ErrQuorum
	}
	for _, d := range m.l {
		if old.ID != "" && !old.Mark {
			unbroken(d.Delete("s/" + path + "-" + old.Data))
		}
	}
	return api.OK
}

// of is the record of an ID, and whether there is one.
func of(j api.Journal, id string) (api.Record, bool) {
	for _, r := range j.Records {
		if r.ID == id {
			return r, true
		}
	}
	return api.Record{}, false
}

func (m model) put(c call) answer {
	r := c.r
	if len(c.b) > 65536 {
		return refused(api.ErrLong)
	}
	if !r.Mark {
		r.Size, r.K, r.M, r.Sum = len(c.b), m.k, len(m.l)-m.k, digest.Sum(c.b)
	}
	if r.Mark && len(c.b) > 0 || record.Check(r) != api.OK {
		return refused(api.ErrArg)
	}
	_, choice, err := m.journal(c.path)
	if err != api.OK {
		return refused(err)
	}
	for _, other := range choice.J.Records {
		if !r.Mark && other.Data == r.Data {
			return refused(api.ErrThere)
		}
	}
	j, err := journal.Add(choice.J, r)
	if err != api.OK {
		return refused(err)
	}
	var laid [][]byte
	if !r.Mark {
		laid, _ = shard.Lay(c.b, r.K, r.M)
	}
	old, _ := of(choice.J, r.ID)
	if err := m.write(c.path, j, laid, "s/"+c.path+"-"+r.Data, old); err != api.OK {
		return refused(err)
	}
	return answer{r: r}
}

func (m model) get(c call) answer {
	l, choice, err := m.journal(c.path)
	if err != api.OK {
		return refused(err)
	}
	r, there := of(choice.J, c.id)
	if c.id == "" && len(choice.J.Records) > 0 {
		r, there = choice.J.Records[0], true
	}
	switch {
	case !there:
		return refused(api.ErrMissing)
	case r.Mark:
		return answer{r: r, err: api.ErrMark}
	}
	files := m.read("s/" + c.path + "-" + r.Data)
	b, err := shard.Read(files, r)
	if c.what == "Part" {
		b, err = shard.Part(files, r, c.from, c.to)
	}
	if err != api.OK {
		return refused(err)
	}
	m.mend(c.path, l, choice, r)
	return answer{r: r, b: b}
}

// mend mends a version, or, of no record, the journal alone, and tells how many files stand there by it.
func (m model) mend(path string, l []api.Copy, choice api.Choice, r api.Record) int {
	var laid [][]byte
	var states []int
	name := "s/" + path + "-" + r.Data
	if r.ID != "" {
		laid, states, _ = shard.Mend(m.read(name), r)
	}
	var some drives
	var files [][]api.File
	for i, d := range m.l {
		if l[i].Err != api.OK && l[i].Err != api.ErrMissing {
			continue
		}
		var own []api.File
		if states != nil && (states[i] == 2 || states[i] == 3) {
			own = append(own, api.File{Name: name, B: laid[i]})
		}
		if choice.Found && !(l[i].Err == api.OK && bytes.Equal(l[i].B, choice.B)) {
			own = append(own, api.File{Name: "j/" + path, B: choice.B})
		}
		if len(own) > 0 {
			some, files = append(some, d), append(files, own)
		}
	}
	n := 0
	well, done := commit(some, files, 1)
	for i := range some {
		if done && well[i] {
			n += len(files[i])
		}
	}
	return n
}

func (m model) drop(c call) answer {
	_, choice, err := m.journal(c.path)
	if err != api.OK {
		return refused(err)
	}
	if !choice.Found {
		return refused(api.ErrMissing)
	}
	j, err := journal.Remove(choice.J, c.id)
	if err != api.OK {
		return refused(err)
	}
	r, _ := of(choice.J, c.id)
	if err := m.write(c.path, j, nil, "", r); err != api.OK {
		return refused(err)
	}
	return answer{r: r}
}

func (m model) heal(path string) answer {
	_, first, err := m.journal(path)
	if err != api.OK {
		return refused(err)
	}
	if !first.Found {
		return refused(api.ErrMissing)
	}
	n := 0
	for _, r := range first.J.Records {
		if r.Mark {
			continue
		}
		if _, _, err := shard.Mend(m.read("s/"+path+"-"+r.Data), r); err != api.OK {
			continue
		}
		l, choice, _ := m.journal(path)
		n += m.mend(path, l, choice, r)
	}
	l, choice, _ := m.journal(path)
	return answer{n: n + m.mend(path, l, choice, api.Record{})}
}

// fewUp is whether fewer than k drives are up.
func (m model) fewUp() bool {
	n := 0
	for _, d := range m.l {
		if d.Up() {
			n++
		}
	}
	return n < m.k
}

// mayBe is whether a text may be a path.
func mayBe(s string) bool {
	return len(s) >= 1 && len(s) <= 400 && !strings.ContainsFunc(s, func(r rune) bool { return r < 33 || r > 126 })
}

// paths are those behind a prefix of drives' files, rising.
func (m model) paths(prefix string) []string {
	var l []string
	for _, name := range m.begin(prefix) {
		if mayBe(name[len(prefix):]) {
			l = append(l, name[len(prefix):])
		}
	}
	return l
}

func (m model) list(withRecords bool) answer {
	all := m.paths("j/")
	if m.fewUp() {
		return refused(api.ErrQuorum)
	}
	var some []string
	for _, path := range all {
		_, c, _ := m.journal(path)
		if !withRecords || len(c.J.Records) > 0 {
			some = append(some, path)
		}
	}
	return answer{paths: some}
}

// boots are the drives' boot numbers.
func (m model) boots() []int {
	var l []int
	for _, c := range m.read("boot") {
		j, err := journal.Read(c.B)
		if c.Err != api.OK || err != api.OK {
			j.Seq = 0
		}
		l = append(l, j.Seq)
	}
	return l
}

func (m model) recover() api.Errno {
	staged := m.paths("tmp/j/")
	if m.fewUp() {
		return api.ErrQuorum
	}
	boots := m.boots()
	for _, path := range staged {
		m.finish(path, boots)
	}
	for _, d := range m.l {
		l, _ := d.List("tmp/")
		for _, name := range l {
			unbroken(d.Delete(name))
		}
	}
	kept := map[string]int{}
	for _, path := range m.paths("j/") {
		_, c, _ := m.journal(path)
		for _, r := range c.J.Records {
			if !r.Mark {
				kept["s/"+path+"-"+r.Data]++
			}
		}
	}
	for _, d := range m.l {
		l, _ := d.List("s/")
		for _, name := range l {
			if kept[name] == 0 {
				unbroken(d.Delete(name))
			}
		}
	}
	if last := slices.Max(boots); last < 1<<40 {
		b, _ := journal.Bytes(api.Journal{Seq: last + 1})
		commit(m.l, slices.Repeat([][]api.File{{{Name: "boot", B: b}}}, len(m.l)), 1)
	}
	return api.OK
}

// finish brings a path's staged journals to an end that enough drives that count have, each by what drives have when its turn comes.
func (m model) finish(path string, boots []int) {
	seen := map[string]int{}
	for _, d := range m.l {
		b, err := d.Read("tmp/j/" + path)
		if unbroken(err) != api.OK {
			continue
		}
		if seen[string(b)]++; seen[string(b)] > 1 {
			continue
		}
		j, err := journal.Read(b)
		if err != api.OK {
			continue
		}
		var some drives
		staged, done := m.read("tmp/j/"+path), m.read("j/"+path)
		for i, d := range m.l {
			as := staged[i].Err == api.OK && bytes.Equal(staged[i].B, b)
			is := done[i].Err == api.OK && bytes.Equal(done[i].B, b)
			if boots[i] == slices.Max(boots) && (as || is) {
				some = append(some, d)
			}
		}
		if len(some) >= m.k+1 {
			renameOn(some, path, j)
		}
	}
}

// renameOn gives what is staged of a journal, and of its records, its names, drive by drive.
func renameOn(l drives, path string, j api.Journal) {
	for _, d := range l {
		for _, r := range j.Records {
			if !r.Mark {
				unbroken(d.Rename("tmp/s/"+path+"-"+r.Data, "s/"+path+"-"+r.Data))
			}
		}
		unbroken(d.Rename("tmp/j/"+path, "j/"+path))
	}
}

// file is what a drive has under a name.
type file struct {
	b     string
	loose bool
}

// filesOf tells what a drive has, also one that does not answer.
func filesOf(d *drive.Drive) map[string]file {
	loose := d.Loose()
	c := d.Clone()
	c.Crash(slices.Repeat([]bool{true}, len(loose)))
	c.Offline(false)
	all := map[string]file{}
	l, _ := c.List("")
	for _, name := range l {
		b, _ := c.Read(name)
		all[name] = file{string(b), slices.Contains(loose, name)}
	}
	return all
}

// shown is files as a line: journals are told by what they say.
func shown(files map[string]file) string {
	var all []string
	for _, name := range slices.Sorted(maps.Keys(files)) {
		f := files[name]
		text := fmt.Sprintf("%d bytes %.8x", len(f.b), f.b)
		if j, err := journal.Read([]byte(f.b)); err == api.OK {
			text = fmt.Sprintf("Seq %d with %d", j.Seq, len(j.Records))
		}
		all = append(all, fmt.Sprintf("%s: %s %v", name, text, f.loose))
	}
	return strings.Join(all, "; ")
}

// wantFiles asks whether drives have just the same files, loose alike.
func wantFiles(t *testing.T, what string, l, wanted drives) {
	t.Helper()
	for i, d := range l {
		if got, want := filesOf(d), filesOf(wanted[i]); !maps.Equal(got, want) {
			t.Errorf("%s: drive %d has %s; want %s", what, i, shown(got), shown(want))
		}
	}
}

// wantDrives asks whether drives are just the same, and made as many changes.
func wantDrives(t *testing.T, what string, l, wanted drives) {
	t.Helper()
	wantFiles(t, what, l, wanted)
	for i, d := range l {
		if d.Ops() != wanted[i].Ops() || d.Up() != wanted[i].Up() {
			t.Errorf("%s: drive %d made %d changes, up: %v; want %d, %v", what, i, d.Ops(), d.Up(), wanted[i].Ops(), wanted[i].Up())
		}
	}
}

// sameChoice is whether two choices are the same, nil lists being empty ones.
func sameChoice(a, b api.Choice) bool {
	return a.Found == b.Found && a.Answers == b.Answers && a.Votes == b.Votes && journal.Same(a.J, b.J) && bytes.Equal(a.B, b.B) && slices.Equal(a.Has, b.Has)
}

// sameAnswer is whether two answers are the same.
func sameAnswer(a, b answer) bool {
	return a.err == b.err && a.n == b.n && record.Same(a.r, b.r) && bytes.Equal(a.b, b.b) && slices.Equal(a.paths, b.paths) && sameChoice(a.c, b.c)
}

func (a answer) String() string {
	return fmt.Sprintf("%v, %d, %d bytes %.20q, %.20q, %v %d %v %d %d, %v", a.r, a.n, len(a.b), a.b, a.paths, a.c.Found, a.c.J.Seq, a.c.Has, a.c.Answers, a.c.Votes, a.err)
}

// clones are drives that are the same, without fuses.
func clones(l drives) drives {
	var all drives
	for _, d := range l {
		all = append(all, d.Clone())
	}
	return all
}

// noFuse stands for no fuse.
const noFuse = -1

// step asks a set of these drives, behind a fuse, and the model of their clones for the same, and holds both against each other.
func step(t *testing.T, what string, s *erasure.Set, l drives, c call, fuse int) answer {
	t.Helper()
	k, _ := s.Size()
	plain := model{clones(l), k}
	if fuse != noFuse {
		drive.Fuse(l, fuse)
		drive.Fuse(plain.l, fuse)
	}
	got, wanted := ask(s, c), plain.do(c)
	if !sameAnswer(got, wanted) {
		t.Errorf("%s: %v, a fuse of %d: %v; want %v", what, c, fuse, got, wanted)
	}
	wantDrives(t, fmt.Sprintf("%s: %v, a fuse of %d", what, c, fuse), l, plain.l)
	return got
}

// hold does so of clones: it tells these, and what was answered.
func hold(t *testing.T, what string, l drives, k int, c call, fuse int) (drives, answer) {
	t.Helper()
	l = clones(l)
	return l, step(t, what, set(t, l, k), l, c, fuse)
}

// set is a set of drives.
func set(t *testing.T, l drives, k int) *erasure.Set {
	t.Helper()
	s, err := erasure.New(l, k)
	if err != api.OK {
		t.Fatalf("no set of %d drives and %d: %v", len(l), k, err)
	}
	return s
}

// made are drives of so many bytes.
func made(t *testing.T, n, size int) drives {
	t.Helper()
	var l drives
	for range n {
		d, err := drive.New(size)
		if err != api.OK {
			t.Fatal(err)
		}
		l = append(l, d)
	}
	return l
}

// fresh are drives with room, and their set.
func fresh(t *testing.T, n, k int) (drives, *erasure.Set) {
	t.Helper()
	l := made(t, n, 1<<22)
	return l, set(t, l, k)
}

// version is a record of an ID whose data name is a number.
func version(id string, n int) api.Record {
	return api.Record{ID: id, Time: n, ETag: "0", Data: fmt.Sprintf("%032x", n)}
}

// mark is a mark of an ID.
func mark(id string, n int) api.Record { return api.Record{ID: id, Time: n, Mark: true} }

// text are so many bytes, unlike ones of unlike numbers.
func text(n, number int) []byte {
	b := make([]byte, n)
	for i := range b {
		b[i] = byte(i*7 + number*13 + i>>8)
	}
	return b
}

// must asks for what is answered with OK.
func must(t *testing.T, s *erasure.Set, calls ...call) {
	t.Helper()
	for _, c := range calls {
		if a := ask(s, c); a.err != api.OK {
			t.Fatalf("%v: %v", c, a.err)
		}
	}
}

// want asks for an error.
func want(t *testing.T, what string, got, wanted api.Errno) {
	t.Helper()
	if got != wanted {
		t.Errorf("%s: %v; want %v", what, got, wanted)
	}
}

// reads asks whether a version is got, with these bytes.
func reads(t *testing.T, what string, s *erasure.Set, path, id string, b []byte) {
	t.Helper()
	if r, got, err := s.Get(path, id); err != api.OK || !bytes.Equal(got, b) || r.Size != len(b) {
		t.Errorf("%s: Get(%.20q, %q): %v, %d bytes, %v; want %d bytes", what, path, id, r, len(got), err, len(b))
	}
}

// away are drives of which those are offline.
func away(l drives, places ...int) {
	for _, i := range places {
		l[i].Offline(true)
	}
}

// back are drives of which none is offline, or full.
func back(l drives) {
	for _, d := range l {
		d.Offline(false)
		d.Full(false)
	}
}

// crash crashes all drives.
func crash(l drives, keeps []bool) {
	for _, d := range l {
		d.Crash(keeps)
	}
}

// raw lays a synced file on a drive.
func raw(t *testing.T, d *drive.Drive, name string, b []byte) {
	t.Helper()
	if err := d.Write(name, b); err != api.OK {
		t.Fatalf("%q is not written: %v", name, err)
	}
	d.Sync(name)
}

// count is how many files of all drives begin so.
func count(l drives, prefix string) int {
	n := 0
	for _, d := range l {
		for name := range filesOf(d) {
			if strings.HasPrefix(name, prefix) {
				n++
			}
		}
	}
	return n
}

// choices are all ways to take some of n, as lists of places.
func choices(n int) [][]int {
	var all [][]int
	for bits := range 1 << n {
		var one []int
		for i := range n {
			if bits>>i&1 == 1 {
				one = append(one, i)
			}
		}
		all = append(all, one)
	}
	return all
}
