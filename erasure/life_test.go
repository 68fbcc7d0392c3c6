package erasure_test

import (
	"bytes"
	"fmt"
	"maps"
	"math/rand"
	"slices"
	"testing"

	"stowage/api"
	"stowage/drive"
	"stowage/erasure"
	"stowage/record"
)

// kept is a version in a plain map.
type kept struct {
	r api.Record
	b []byte
}

// world is a set's long life beside a plain map from paths to versions, the newest one first.
type world struct {
	t     *testing.T
	r     *rand.Rand
	l     drives
	s     *erasure.Set
	n, k  int
	plain map[string][]kept
	seqs  map[string]int
	drawn int
	// weak are drives to which anything may happen; k + 1 others are spared.
	weak []int
}

// newWorld is one of so many drives.
func newWorld(t *testing.T, seed int64, n, k int) *world {
	t.Helper()
	l, s := fresh(t, n, k)
	must(t, s, recovers())
	return &world{t: t, r: rand.New(rand.NewSource(seed)), l: l, s: s, n: n, k: k, plain: map[string][]kept{}, seqs: map[string]int{}}
}

// paths are those that lives go on with.
func (w *world) path() string { return []string{"a", "a/b", "z", "-"}[w.r.Intn(4)] }

// id is the ID of a version, mostly of one that there is.
func (w *world) id(path string) string {
	if l := w.plain[path]; len(l) > 0 && w.r.Intn(3) > 0 {
		return l[w.r.Intn(len(l))].r.ID
	}
	return fmt.Sprint("v", w.r.Intn(9))
}

// find is the version that is meant.
func (w *world) find(path, id string) (kept, bool) {
	l := w.plain[path]
	if id == "" && len(l) > 0 {
		return l[0], true
	}
	i := slices.IndexFunc(l, func(v kept) bool { return v.r.ID == id })
	if i < 0 {
		return kept{}, false
	}
	return l[i], true
}

// without is an object without a version.
func without(l []kept, id string) []kept {
	return slices.DeleteFunc(slices.Clone(l), func(v kept) bool { return v.r.ID == id })
}

// mishap does something to a weak drive.
func (w *world) mishap() {
	if len(w.weak) == 0 {
		return
	}
	d := w.l[w.weak[w.r.Intn(len(w.weak))]]
	switch w.r.Intn(5) {
	case 0:
		d.Offline(true)
	case 1:
		d.Offline(false)
	case 2:
		d.Full(w.r.Intn(2) == 0)
	default:
		names := slices.Sorted(maps.Keys(filesOf(d)))
		if len(names) == 0 {
			return
		}
		name := names[w.r.Intn(len(names))]
		if w.r.Intn(2) == 0 {
			d.Delete(name)
			return
		}
		d.Turn(name, w.r.Intn(60), byte(1+w.r.Intn(255)))
	}
}

// change is a drawn call that writes, and what the map has of its path behind it.
func (w *world) change() (call, []kept, api.Errno) {
	path := w.path()
	id := w.id(path)
	now := w.plain[path]
	w.drawn++
	switch w.r.Intn(5) {
	case 0:
		if _, there := w.find(path, id); !there {
			return drop(path, id), now, api.ErrMissing
		}
		return drop(path, id), without(now, id), api.OK
	case 1:
		r := mark(id, w.drawn)
		return put(path, r, nil), slices.Insert(without(now, id), 0, kept{r: r}), api.OK
	}
	b := text(w.r.Intn(40)*w.r.Intn(40), w.drawn)
	r := version(id, w.drawn)
	return put(path, r, b), slices.Insert(without(now, id), 0, kept{whole(r, b, w.k, w.n-w.k), b}), api.OK
}

// writes asks for a change; at times drives stop in its midst, crash, and are put right.
func (w *world) writes() {
	c, then, wanted := w.change()
	stops := w.r.Intn(4) == 0
	if stops {
		drive.Fuse(w.l, w.r.Intn(8*w.n))
	}
	got := ask(w.s, c)
	if stops && got.err == api.ErrBroken {
		w.recover()
		w.adopt(c.path, then)
		return
	}
	if stops {
		crash(w.l, []bool{w.r.Intn(2) == 0})
	}
	want(w.t, c.String(), got.err, wanted)
	if wanted == api.OK {
		w.plain[c.path] = then
		w.seqs[c.path]++
	}
}

// recover crashes all drives and puts the set right, stopped itself at times.
func (w *world) recover() {
	w.t.Helper()
	for range w.r.Intn(3) {
		crash(w.l, []bool{w.r.Intn(2) == 0, w.r.Intn(2) == 0})
		w.mishap()
		drive.Fuse(w.l, w.r.Intn(6*w.n))
		if err := w.s.Recover(); err != api.OK && err != api.ErrBroken {
			w.t.Errorf("Recover: %v", err)
		}
	}
	crash(w.l, []bool{w.r.Intn(2) == 0})
	want(w.t, "Recover", w.s.Recover(), api.OK)
}

// adopt takes over what an object is behind a call that was stopped: as it was, or as it was to be.
func (w *world) adopt(path string, then []kept) {
	w.t.Helper()
	c, err := w.s.Look(path)
	want(w.t, "Look behind a crash", err, api.OK)
	same := func(l []kept, seq int) bool {
		return c.J.Seq == seq && slices.EqualFunc(c.J.Records, l, func(r api.Record, v kept) bool { return record.Same(r, v.r) })
	}
	switch {
	case same(then, w.seqs[path]+1):
		w.plain[path] = then
		w.seqs[path]++
	case !same(w.plain[path], w.seqs[path]):
		w.t.Fatalf("behind a crash %q is Seq %d with %v; it was Seq %d with %v, and was to be %v", path, c.J.Seq, c.J.Records, w.seqs[path], w.plain[path], then)
	}
}

// asks asks for a version, or for lists, and holds the answer against the map.
func (w *world) asks() {
	path := w.path()
	id := w.id(path)
	if w.r.Intn(3) == 0 {
		id = ""
	}
	v, there := w.find(path, id)
	wanted := answer{r: v.r, b: v.b}
	switch {
	case !there:
		wanted.err = api.ErrMissing
	case v.r.Mark:
		wanted.err = api.ErrMark
	}
	c := get(path, id)
	if w.r.Intn(2) == 0 {
		c = part(path, id, len(v.b)/3, len(v.b)/2)
		wanted.b = v.b[len(v.b)/3 : len(v.b)/2]
	}
	if got := ask(w.s, c); !sameAnswer(got, wanted) {
		w.t.Errorf("%v: %v; want %v", c, got, wanted)
	}
	if w.r.Intn(4) == 0 {
		w.lists()
	}
	if w.r.Intn(4) == 0 {
		_, err := w.s.Heal(path)
		want(w.t, "Heal", err, map[bool]api.Errno{true: api.OK, false: api.ErrMissing}[w.seqs[path] > 0])
	}
}

// lists holds lists against the map.
func (w *world) lists() {
	var all, some []string
	for _, path := range slices.Sorted(maps.Keys(w.seqs)) {
		if w.seqs[path] > 0 {
			all = append(all, path)
		}
		if len(w.plain[path]) > 0 {
			some = append(some, path)
		}
	}
	if got, err := w.s.All(); err != api.OK || !slices.Equal(got, all) {
		w.t.Errorf("All: %q, %v; want %q", got, err, all)
	}
	if got, err := w.s.Paths(); err != api.OK || !slices.Equal(got, some) {
		w.t.Errorf("Paths: %q, %v; want %q", got, err, some)
	}
}

// season is some time in which other drives are weak; at its end all drives are back, and what was got stands on all of them as a set has it to which nothing happened.
func (w *world) season() {
	w.weak = w.r.Perm(w.n)[:w.r.Intn(w.n-w.k)]
	for range 25 {
		switch w.r.Intn(5) {
		case 0:
			w.mishap()
		case 1, 2:
			w.writes()
		default:
			w.asks()
		}
		if w.t.Failed() {
			w.t.Fatalf("%d drives, k %d, weak: %v", w.n, w.k, w.weak)
		}
	}
	back(w.l)
	want(w.t, "Recover with all drives", w.s.Recover(), api.OK)
	w.whole()
}

// whole reads all versions, and asks whether all drives have just what there is.
func (w *world) whole() {
	w.t.Helper()
	journals, texts := map[string]api.Journal{}, map[string][]byte{}
	for path, l := range w.plain {
		var records []api.Record
		for _, v := range l {
			records = append(records, v.r)
			got, b, err := w.s.Get(path, v.r.ID)
			if v.r.Mark {
				want(w.t, "a mark", err, api.ErrMark)
				continue
			}
			if err != api.OK || !bytes.Equal(b, v.b) || !record.Same(got, v.r) {
				w.t.Errorf("Get(%q, %q): %v, %d bytes, %v; want %v", path, v.r.ID, got, len(b), err, v.r)
			}
			texts[v.r.Data] = v.b
		}
		journals[path] = api.Journal{Seq: w.seqs[path], Records: records}
		// An object without versions that are read has its journals put right by Heal alone.
		if _, err := w.s.Heal(path); err != api.OK && w.seqs[path] > 0 {
			w.t.Errorf("Heal(%q): %v", path, err)
		}
		if w.seqs[path] == 0 {
			delete(journals, path)
		}
	}
	bare := clones(w.l)
	for _, d := range bare {
		d.Delete("boot")
	}
	wantLaid(w.t, "all drives are back", bare, journals, texts)
}

// TestLife: long drawn lives of sets beside a plain map (P12.9 to P12.11).
func TestLife(t *testing.T) {
	for i, size := range [][2]int{{3, 1}, {4, 2}, {5, 2}, {6, 3}, {4, 1}, {3, 2}, {8, 4}, {2, 1}} {
		t.Run(fmt.Sprintf("%d of %d", size[1], size[0]), func(t *testing.T) {
			t.Parallel()
			w := newWorld(t, int64(1209+i), size[0], size[1])
			for range 40 {
				w.season()
			}
			if w.drawn < 100 {
				t.Errorf("only %d changes were drawn", w.drawn)
			}
		})
	}
}

// TestLifeByModel: lives without any care for quorums, each call held against the model: answers, and what stands on the drives.
func TestLifeByModel(t *testing.T) {
	for seed := range 40 {
		r := rand.New(rand.NewSource(int64(seed)))
		n := 2 + r.Intn(4)
		k := 1 + r.Intn(n-1)
		l, s := fresh(t, n, k)
		w := &world{t: t, r: r, l: l, s: s, n: n, k: k, plain: map[string][]kept{}}
		for i := range n {
			w.weak = append(w.weak, i)
		}
		for i := range 80 {
			var c call
			switch r.Intn(9) {
			case 0, 1, 2, 3:
				c, _, _ = w.change()
			case 4:
				c = get(w.path(), []string{"", w.id("a")}[r.Intn(2)])
			case 5:
				c = part(w.path(), w.id("a"), r.Intn(9)-1, r.Intn(40))
			case 6:
				c = heal(w.path())
			case 7:
				c = []call{allPaths(), withVersions(), look(w.path())}[r.Intn(3)]
			default:
				c = recovers()
			}
			fuse := noFuse
			if r.Intn(5) == 0 {
				fuse = r.Intn(5 * n)
			}
			if step(t, fmt.Sprint("life ", seed, ", step ", i), s, l, c, fuse); fuse != noFuse {
				crash(l, []bool{r.Intn(2) == 0})
			}
			if r.Intn(3) == 0 {
				w.mishap()
			}
		}
	}
}

// TestAsFresh: a version that was got, by whole or in part, stands on all drives as a fresh set has it, whatever m drives had of it (P12.11).
func TestAsFresh(t *testing.T) {
	r := rand.New(rand.NewSource(1211))
	for i := range 200 {
		n := 2 + r.Intn(6)
		k := 1 + r.Intn(n-1)
		fresh, f := fresh(t, n, k)
		b := text(r.Intn(2000), i)
		must(t, f, put("a", version("x", i), b))
		l := clones(fresh)
		for _, at := range r.Perm(n)[:r.Intn(n-k+1)] {
			switch r.Intn(4) {
			case 0:
				l[at] = made(t, 1, 1<<20)[0]
			case 1:
				l[at].Delete("j/a")
			case 2:
				l[at].Turn(shardName(i), r.Intn(60), 1)
				l[at].Turn("j/a", r.Intn(60), 1)
			case 3:
				raw(t, l[at], shardName(i), []byte("other"))
			}
		}
		s := set(t, l, k)
		c := get("a", "x")
		if r.Intn(2) == 0 {
			c = part("a", "", 0, 0)
		}
		must(t, s, c)
		wantFiles(t, fmt.Sprint("drawn ", i), l, fresh)
	}
}
