package pool_test

import (
	"bytes"
	"fmt"
	"maps"
	"math/rand"
	"slices"
	"strings"
	"testing"

	"stowage/api"
	"stowage/drive"
	"stowage/journal"
	"stowage/pool"
	"stowage/record"
	"stowage/shard"
)

// kept is a version in a plain map.
type kept struct {
	r api.Record
	b []byte
}

// world is a pool's long life beside a plain map from paths to versions, the newest one first.
type world struct {
	t     *testing.T
	r     *rand.Rand
	s     shape
	l     drives
	p     *pool.Pool
	plain map[string][]kept
	seqs  map[string]int
	drawn int
	// weak are the places of drives to which anything may happen; k + 1 others of each set are spared.
	weak []int
}

// newWorld is one of so many drives.
func newWorld(t *testing.T, seed int64, s shape) *world {
	t.Helper()
	l, p := fresh(t, s)
	return &world{t: t, r: rand.New(rand.NewSource(seed)), s: s, l: l, p: p, plain: map[string][]kept{}, seqs: map[string]int{}}
}

// somePaths are those that lives go on with: of up to four sets each has some.
func somePaths() []string { return []string{"a", "a/b", "a/c", "b", "c", "z", "zz", "-"} }

func (w *world) path() string { return somePaths()[w.r.Intn(len(somePaths()))] }

// id is the ID of a version, mostly of one that there is.
func (w *world) id(path string) string {
	if l := w.plain[path]; len(l) > 0 && w.r.Intn(3) > 0 {
		return l[w.r.Intn(len(l))].r.ID
	}
	return fmt.Sprint("v", w.r.Intn(9))
}

// find is the version that is meant.
func (w *world) find(path, id string) (kept, bool) {
	l := w.plain[path]
	if id == "" && len(l) > 0 {
		return l[0], true
	}
	i := slices.IndexFunc(l, func(v kept) bool { return v.r.ID == id })
	if i < 0 {
		return kept{}, false
	}
	return l[i], true
}

// without is an object without a version.
func without(l []kept, id string) []kept {
	return slices.DeleteFunc(slices.Clone(l), func(v kept) bool { return v.r.ID == id })
}

// keeps is a drawn choice of what is kept of a drive's loose files.
func (w *world) keeps() []bool {
	l := make([]bool, w.r.Intn(4))
	for i := range l {
		l[i] = w.r.Intn(2) == 0
	}
	return l
}

// crash crashes all drives, whatever is kept of each.
func (w *world) crash() {
	for _, d := range w.l {
		d.Crash(w.keeps())
	}
}

// light gives all drives a fuse.
func (w *world) light(n int) { drive.Fuse(w.l, n) }

// mishap does something to a weak drive.
func (w *world) mishap() {
	if len(w.weak) == 0 {
		return
	}
	d := w.l[w.weak[w.r.Intn(len(w.weak))]]
	switch w.r.Intn(5) {
	case 0:
		d.Offline(true)
	case 1:
		d.Offline(false)
	case 2:
		d.Full(w.r.Intn(2) == 0)
	default:
		names := namesOf(d)
		if len(names) == 0 {
			return
		}
		name := names[w.r.Intn(len(names))]
		if w.r.Intn(2) == 0 {
			d.Delete(name)
			return
		}
		d.Turn(name, w.r.Intn(60), byte(1+w.r.Intn(255)))
	}
}

// exchange puts an empty drive in the place of a weak one, and opens all anew.
func (w *world) exchange() {
	if len(w.weak) > 0 {
		w.l[w.weak[w.r.Intn(len(w.weak))]] = blank(w.t)
		w.reopen()
	}
}

// change is a drawn call that writes, what the map has of its path behind it, and what is answered.
func (w *world) change() (call, []kept, api.Errno) {
	path := w.path()
	id := w.id(path)
	now := w.plain[path]
	w.drawn++
	switch w.r.Intn(5) {
	case 0:
		if _, there := w.find(path, id); !there {
			return drop(path, id), now, api.ErrMissing
		}
		return drop(path, id), without(now, id), api.OK
	case 1:
		r := mark(id, w.drawn)
		return put(path, r, nil), slices.Insert(without(now, id), 0, kept{r: r}), api.OK
	}
	b := text(w.r.Intn(40)*w.r.Intn(40), w.drawn)
	r := version(id, w.drawn)
	return put(path, r, b), slices.Insert(without(now, id), 0, kept{whole(r, b, w.s), b}), api.OK
}

// writes asks for a change; at times drives stop in its midst, and all is opened anew behind a crash.
func (w *world) writes() {
	c, then, wanted := w.change()
	stops := w.r.Intn(4) == 0
	if stops {
		w.light(w.r.Intn(8 * w.s.each()))
	}
	got := ask(w.p, c)
	if stops {
		w.reopen()
	}
	if stops && got.err == api.ErrBroken {
		w.adopt(c.path, then)
		// What was in the midst may stand on weak drives, and on too few of those that are spared: these are given it while all that have it are there.
		_, err := w.p.HealAll()
		want(w.t, "HealAll behind a crash", err, api.OK)
		return
	}
	want(w.t, c.String(), got.err, wanted)
	if wanted == api.OK {
		w.plain[c.path] = then
		w.seqs[c.path]++
	}
}

// reopen crashes all drives and opens them anew, stopped in that itself at times. Which drives are there is the same from the call that was stopped on: what one of them alone has finished would else be gone with it, and be there again when it is back.
func (w *world) reopen() {
	w.t.Helper()
	for range w.r.Intn(3) {
		w.crash()
		w.light(w.r.Intn(6 * w.s.all()))
		if _, err := pool.Open(w.l, w.s.k, w.s.m, w.s.sets); err != api.OK && err != api.ErrBroken {
			w.t.Errorf("Open: %v", err)
		}
	}
	w.crash()
	w.p = opened(w.t, w.l, w.s)
}

// adopt takes over what an object is behind a call that was stopped: as it was, or as it was to be.
func (w *world) adopt(path string, then []kept) {
	w.t.Helper()
	c, err := w.p.Look(path)
	want(w.t, "Look behind a crash", err, api.OK)
	same := func(l []kept, seq int) bool {
		return c.J.Seq == seq && slices.EqualFunc(c.J.Records, l, func(r api.Record, v kept) bool { return record.Same(r, v.r) })
	}
	switch {
	case same(then, w.seqs[path]+1):
		w.plain[path] = then
		w.seqs[path]++
	case !same(w.plain[path], w.seqs[path]):
		w.t.Fatalf("behind a crash %q is Seq %d with %v; it was Seq %d with %v, and was to be %v", path, c.J.Seq, c.J.Records, w.seqs[path], w.plain[path], then)
	}
}

// asks asks for a version, or for lists, and holds the answer against the map.
func (w *world) asks() {
	path := w.path()
	id := w.id(path)
	if w.r.Intn(3) == 0 {
		id = ""
	}
	v, there := w.find(path, id)
	wanted := answer{r: v.r, b: v.b}
	switch {
	case !there:
		wanted.err = api.ErrMissing
	case v.r.Mark:
		wanted.err = api.ErrMark
	}
	c := get(path, id)
	if w.r.Intn(2) == 0 {
		c = part(path, id, len(v.b)/3, len(v.b)/2)
		wanted.b = v.b[len(v.b)/3 : len(v.b)/2]
	}
	if got := ask(w.p, c); !sameAnswer(got, wanted) {
		w.t.Errorf("%v: %v; want %v", c, got, wanted)
	}
	switch w.r.Intn(8) {
	case 0, 1:
		w.lists()
	case 2:
		_, err := w.p.Heal(path)
		want(w.t, "Heal", err, map[bool]api.Errno{true: api.OK, false: api.ErrMissing}[w.seqs[path] > 0])
	case 3:
		_, err := w.p.HealAll()
		want(w.t, "HealAll", err, api.OK)
	}
}

// lists holds Paths against the map.
func (w *world) lists() {
	prefix := []string{"", "a", "a/", "z", "none"}[w.r.Intn(5)]
	var wanted []string
	for _, path := range slices.Sorted(maps.Keys(w.plain)) {
		if len(w.plain[path]) > 0 && strings.HasPrefix(path, prefix) {
			wanted = append(wanted, path)
		}
	}
	wantPaths(w.t, w.p, prefix, wanted...)
}

// season is some time in which other drives are weak; at its end all drives are back, and behind HealAll all stands on all of them as on drives to which nothing happened.
func (w *world) season() {
	w.weak = nil
	for set := range w.s.sets {
		for _, i := range w.r.Perm(w.s.each())[:w.r.Intn(w.s.m)] {
			w.weak = append(w.weak, w.s.places(set)[i])
		}
	}
	for range 30 {
		switch w.r.Intn(8) {
		case 0, 1:
			w.mishap()
		case 2, 3, 4:
			w.writes()
		case 5:
			if w.r.Intn(2) == 0 {
				w.exchange()
			} else {
				w.reopen()
			}
		default:
			w.asks()
		}
		if w.t.Failed() {
			w.t.Fatalf("%v, weak: %v", w.s, w.weak)
		}
	}
	back(w.l)
	w.p = opened(w.t, w.l, w.s)
	if _, err := w.p.HealAll(); err != api.OK {
		w.t.Errorf("HealAll: %v", err)
	}
	w.whole()
}

// whole reads all versions, and asks whether all drives have just what there is.
func (w *world) whole() {
	w.t.Helper()
	for path, l := range w.plain {
		for _, v := range l {
			got, b, err := w.p.Get(path, v.r.ID)
			wanted := api.OK
			if v.r.Mark {
				wanted = api.ErrMark
			}
			if err != wanted || !bytes.Equal(b, v.b) || !record.Same(got, v.r) {
				w.t.Errorf("Get(%q, %q): %v, %d bytes, %v; want %v", path, v.r.ID, got, len(b), err, v.r)
			}
		}
	}
	for i, d := range w.l {
		got, wanted := filesOf(d), w.laid(i)
		// How often all was opened is another matter.
		delete(got, "boot")
		if !maps.Equal(got, wanted) {
			w.t.Errorf("drive %d has %s; want %s", i, shown(got), shown(wanted))
		}
	}
}

// laid is what a drive is to have of all that there is: its format, and its own set's journals and shards.
func (w *world) laid(at int) map[string]file {
	w.t.Helper()
	set, place := at/w.s.each(), at%w.s.each()
	all := map[string]file{"format": {b: string(w.s.formats()[at])}}
	for path, seq := range w.seqs {
		if setOf(path, w.s.sets) != set {
			continue
		}
		j := api.Journal{Seq: seq}
		for _, v := range w.plain[path] {
			j.Records = append(j.Records, v.r)
			if v.r.Mark {
				continue
			}
			files, err := shard.Lay(v.b, w.s.k, w.s.m)
			want(w.t, "shard.Lay", err, api.OK)
			all["s/"+path+"-"+v.r.Data] = file{b: string(files[place])}
		}
		b, err := journal.Bytes(j)
		want(w.t, "journal.Bytes", err, api.OK)
		all["j/"+path] = file{b: string(b)}
	}
	return all
}

// TestLife: long drawn lives of pools beside a plain map (P15.4 to P15.6).
func TestLife(t *testing.T) {
	for i, s := range []shape{{1, 1, 1}, {1, 1, 3}, {1, 2, 2}, {2, 2, 1}, {2, 3, 2}, {1, 3, 3}, {3, 3, 2}, {4, 4, 1}, {1, 2, 4}, {2, 1, 4}} {
		t.Run(fmt.Sprint(s), func(t *testing.T) {
			t.Parallel()
			w := newWorld(t, int64(1504+i), s)
			for range 30 {
				w.season()
			}
			if w.drawn < 100 {
				t.Errorf("only %d changes were drawn", w.drawn)
			}
		})
	}
}

// anyCall is a drawn call of any kind.
func (w *world) anyCall() call {
	switch w.r.Intn(9) {
	case 0, 1, 2, 3:
		c, _, _ := w.change()
		return c
	case 4:
		return get(w.path(), []string{"", w.id("a")}[w.r.Intn(2)])
	case 5:
		return part(w.path(), w.id("a"), w.r.Intn(9)-1, w.r.Intn(40))
	case 6:
		return []call{heal(w.path()), healAll()}[w.r.Intn(2)]
	}
	return []call{paths(""), paths("a"), look(w.path())}[w.r.Intn(3)]
}

// anyFuse is a drawn one, mostly none.
func (w *world) anyFuse() *fuse {
	if w.r.Intn(5) > 0 {
		return nil
	}
	f := w.s.everywhere(w.r.Intn(5 * w.s.each()))
	if w.r.Intn(3) == 0 {
		f.places = w.s.places(w.r.Intn(w.s.sets))
	}
	return f
}

// TestLifeByModel: lives without any care for quorums, each call and each opening held against the model: answers, and what stands on the drives.
func TestLifeByModel(t *testing.T) {
	for i, s := range []shape{{1, 1, 1}, {1, 1, 2}, {1, 2, 2}, {2, 2, 1}, {2, 1, 3}, {1, 1, 4}} {
		t.Run(fmt.Sprint(s), func(t *testing.T) {
			t.Parallel()
			for seed := range 20 {
				w := newWorld(t, int64(100*i+seed), s)
				w.weak = s.everywhere(0).places
				for n := range 60 {
					what := fmt.Sprint("life ", seed, ", step ", n)
					if w.r.Intn(6) > 0 {
						step(t, what, w.p, w.l, w.anyCall(), w.anyFuse())
					} else if p, err := opens(t, what, w.l, s, w.anyFuse()); err == api.OK {
						w.p = p
					}
					w.crash()
					for range w.r.Intn(3) {
						w.mishap()
					}
				}
			}
		})
	}
}
