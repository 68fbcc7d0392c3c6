package erasure_test

import (
	"fmt"
	"math/rand"
	"slices"
	"strings"
	"testing"

	"stowage/api"
	"stowage/digest"
	"stowage/drive"
)

// tells is all that a set of such drives tells of an object, as a line: its journal, and of each version the bytes. It asks clones, for reading mends.
func tells(t *testing.T, l drives, k int, path string) string {
	t.Helper()
	s := set(t, clones(l), k)
	c, err := s.Look(path)
	line := fmt.Sprintf("Seq %d %v", c.J.Seq, err)
	for _, r := range c.J.Records {
		got, b, err := s.Get(path, r.ID)
		line += fmt.Sprintf("; %s %v %.40s %d %.4x %v", r.ID, r.Mark, strings.TrimLeft(got.Data, "0"), len(b), digest.Sum(b), err)
	}
	return line
}

// life is a call in the midst of which drives stop: on how many, what was done ahead, what became by hand of how many drives, the call.
type life struct {
	n, k  int
	begin []call
	bad   int
	spoil func(l drives)
	c     call
}

// lives are calls of all kinds that change drives: Puts, Drops, a Get that mends, a Heal.
func lives(n, k int) map[string]life {
	begin := []call{put("a", version("x", 1), text(40, 1)), put("a", mark("m", 2), nil), put("a", version("y", 3), text(300, 3)), put("b", version("x", 1), text(9, 1))}
	spoil := func(l drives) {
		l[0].Delete("j/a")
		l[0].Delete(shardName(1))
		l[0].Turn(shardName(3), 0, 1)
		if n-k > 1 {
			l[1].Turn("j/a", 4, 1)
			l[1].Delete(shardName(1))
		}
	}
	all := map[string]life{
		"the first version":   {c: put("a", version("z", 4), text(50, 4))},
		"one more":            {begin: begin, c: put("a", version("z", 4), text(50, 4))},
		"in another's place":  {begin: begin, c: put("a", version("x", 4), text(50, 4))},
		"a mark":              {begin: begin, c: put("a", mark("z", 4), nil)},
		"a mark in its place": {begin: begin, c: put("a", mark("y", 4), nil)},
		"in a mark's place":   {begin: begin, c: put("a", version("m", 4), nil)},
		"a Drop":              {begin: begin, c: drop("a", "y")},
		"a Drop of a mark":    {begin: begin, c: drop("a", "m")},
		"a Drop of the last":  {begin: begin[:1], c: drop("a", "x")},
		"a Get that mends":    {begin: begin, spoil: spoil, c: get("a", "y")},
		"a Part that mends":   {begin: begin, spoil: spoil, c: part("a", "x", 3, 9)},
		"a Heal":              {begin: begin, spoil: spoil, c: heal("a")},
		"a Heal of marks":     {begin: []call{put("a", mark("m", 2), nil)}, spoil: spoil, c: heal("a")},
		"a Put over bad ones": {begin: begin, spoil: spoil, c: put("a", version("x", 4), text(50, 4))},
	}
	for what, one := range all {
		one.n, one.k = n, k
		if one.spoil != nil {
			one.bad = min(2, n-k)
		}
		all[what] = one
	}
	return all
}

// eachLife does so of each life of sets of these sizes, side by side.
func eachLife(t *testing.T, sizes [][2]int, do func(t *testing.T, what string, x life)) {
	for _, size := range sizes {
		for what, x := range lives(size[0], size[1]) {
			t.Run(fmt.Sprintf("%s on %d of %d", what, x.k, x.n), func(t *testing.T) {
				t.Parallel()
				do(t, what, x)
			})
		}
	}
}

// start are a life's drives ahead of its call, put right once.
func (x life) start(t *testing.T) drives {
	t.Helper()
	l, s := fresh(t, x.n, x.k)
	must(t, s, recovers())
	must(t, s, x.begin...)
	if x.spoil != nil {
		x.spoil(l)
	}
	return l
}

// stops is how many changes the call makes.
func (x life) stops(t *testing.T, l drives) int {
	t.Helper()
	n := 0
	after, got := hold(t, "without a fuse", l, x.k, x.c, noFuse)
	want(t, x.c.String(), got.err, api.OK)
	for i := range l {
		n += after[i].Ops() - l[i].Ops()
	}
	return n
}

// keepings are all ways to keep what is loose on drives: of each way a list a drive.
func keepings(l drives) [][][]bool {
	all := [][][]bool{nil}
	for _, d := range l {
		var longer [][][]bool
		loose := len(d.Loose())
		for _, one := range all {
			for _, kept := range choices(loose) {
				keeps := make([]bool, loose)
				for _, i := range kept {
					keeps[i] = true
				}
				longer = append(longer, append(slices.Clone(one), keeps))
			}
		}
		all = longer
	}
	return all
}

// crashed are clones of drives behind a crash that keeps so.
func crashed(l drives, keeps [][]bool) drives {
	l = clones(l)
	for i, d := range l {
		d.Crash(keeps[i])
	}
	return l
}

// eachCrash does so for each change at which the call is stopped, one beyond all, and each way to crash: it hands on the drives, and what the call answered.
func (x life) eachCrash(t *testing.T, what string, do func(what string, l drives, err api.Errno)) {
	t.Helper()
	begun := x.start(t)
	all := x.stops(t, begun)
	for n := range all + 1 {
		l, got := hold(t, what, begun, x.k, x.c, n)
		if done := n == all; (got.err == api.OK) != done || !done && !sameAnswer(got, refused(api.ErrBroken)) {
			t.Errorf("%s, stopped at %d: %v", what, n, got)
		}
		for _, keeps := range keepings(l) {
			do(fmt.Sprintf("%s: %d of %d, stopped at %d, kept %v", what, x.k, x.n, n, keeps), crashed(l, keeps), got.err)
		}
	}
}

// ends are what an object may be behind all that: as ahead of the call, and as behind it.
func (x life) ends(t *testing.T) (string, string) {
	t.Helper()
	l := x.start(t)
	ahead := tells(t, l, x.k, "a")
	after, _ := hold(t, "the end", l, x.k, x.c, noFuse)
	return ahead, tells(t, after, x.k, "a")
}

// wantEnd asks whether an object is as ahead of a call, or as behind it, and as behind it, if that answered OK.
func wantEnd(t *testing.T, what, got, ahead, behind string, err api.Errno) {
	t.Helper()
	if got != behind && (got != ahead || err == api.OK) {
		t.Errorf("%s, answered %v: %s; want %s, or %s", what, err, got, behind, ahead)
	}
}

// sizes are sets that are small enough for all choices.
func sizes() [][2]int { return [][2]int{{2, 1}, {3, 1}, {3, 2}, {4, 2}} }

// TestStopped: whichever change a fuse stops, and whatever is kept of the loose: behind a crash and Recover each object is as ahead or as behind, and what stands on the drives is what a set has that never stopped (P12.10).
func TestStopped(t *testing.T) {
	eachLife(t, sizes(), func(t *testing.T, what string, x life) {
		ahead, behind := x.ends(t)
		x.eachCrash(t, what, func(what string, l drives, err api.Errno) {
			other := tells(t, l, x.k, "b")
			want(t, what, step(t, what, set(t, l, x.k), l, recovers(), noFuse).err, api.OK)
			wantEnd(t, what, tells(t, l, x.k, "a"), ahead, behind, err)
			if got := tells(t, l, x.k, "b"); got != other {
				t.Errorf("%s: another object: %s; want %s", what, got, other)
			}
			wantTidy(t, what, l, x.k)
		})
	})
}

// wantTidy asks whether, behind Recover, nothing is staged or loose, and no shard file of no record is left; and whether a Heal of all brings all drives to the same.
func wantTidy(t *testing.T, what string, l drives, k int) {
	t.Helper()
	if count(l, "tmp/") != 0 {
		t.Errorf("%s: staged files are left", what)
	}
	l = clones(l)
	s := set(t, l, k)
	versions := 0
	for _, path := range []string{"a", "b"} {
		c, _ := s.Look(path)
		if c.Found {
			must(t, s, heal(path))
		}
		for _, r := range c.J.Records {
			if !r.Mark {
				versions++
			}
		}
	}
	if got := count(l, "s/"); got != versions*len(l) {
		t.Errorf("%s: %d shard files of %d versions", what, got, versions)
	}
	for i, d := range l {
		if len(d.Loose()) > 0 || filesOf(d)["j/a"] != filesOf(l[0])["j/a"] {
			t.Errorf("%s: drive %d has %s", what, i, shown(filesOf(d)))
		}
	}
}

// TestStoppedAway: with each choice of drives that are away when the set is put right, as long as k + 1 are there; when they are back, and when it is put right once more, all is as it was told.
func TestStoppedAway(t *testing.T) {
	eachLife(t, [][2]int{{3, 1}, {4, 1}, {4, 2}}, func(t *testing.T, what string, x life) {
		ahead, behind := x.ends(t)
		x.eachCrash(t, what, func(what string, begun drives, err api.Errno) {
			for _, gone := range choices(x.n) {
				// Those that lack files are no part of the k + 1.
				left := slices.DeleteFunc(slices.Clone(gone), func(i int) bool { return i < x.bad })
				if x.n-x.bad-len(left) < x.k+1 {
					continue
				}
				l := clones(begun)
				s := set(t, l, x.k)
				away(l, gone...)
				line := fmt.Sprint(what, ", away ", gone)
				want(t, line, step(t, line, s, l, recovers(), noFuse).err, api.OK)
				told := tells(t, l, x.k, "a")
				wantEnd(t, line, told, ahead, behind, err)
				back(l)
				if got := tells(t, l, x.k, "a"); got != told {
					t.Errorf("%s, back: %s; want %s", line, got, told)
				}
				want(t, line, step(t, line, s, l, recovers(), noFuse).err, api.OK)
				if got := tells(t, l, x.k, "a"); got != told {
					t.Errorf("%s, recovered again: %s; want %s", line, got, told)
				}
				wantTidy(t, line, l, x.k)
			}
		})
	})
}

// TestOthersAway: some drives are away at the call, others when the set is put right, as long as k + 1 are there all the time.
func TestOthersAway(t *testing.T) {
	for _, c := range []call{put("a", version("z", 4), text(50, 4)), put("a", version("x", 4), text(50, 4)), put("a", mark("x", 4), nil), drop("a", "y")} {
		x := life{n: 4, k: 1, c: c, begin: []call{put("a", version("x", 1), text(40, 1)), put("a", version("y", 3), text(300, 3))}}
		ahead, behind := x.ends(t)
		for _, first := range choices(4) {
			for _, then := range choices(4) {
				both := slices.Concat(first, then)
				slices.Sort(both)
				if len(slices.Compact(both)) > 2 {
					continue
				}
				x := x
				x.spoil = func(l drives) { away(l, first...) }
				t.Run(fmt.Sprint(c.what, " with ", first, " away, then ", then), func(t *testing.T) {
					t.Parallel()
					x.othersAway(t, then, ahead, behind)
				})
			}
		}
	}
}

// othersAway holds what an object is when other drives are away than at the call, and when all are back.
func (x life) othersAway(t *testing.T, gone []int, ahead, behind string) {
	t.Helper()
	x.eachCrash(t, x.c.String(), func(what string, l drives, err api.Errno) {
		back(l)
		away(l, gone...)
		want(t, what, step(t, what, set(t, l, x.k), l, recovers(), noFuse).err, api.OK)
		told := tells(t, l, x.k, "a")
		wantEnd(t, what, told, ahead, behind, err)
		back(l)
		if got := tells(t, l, x.k, "a"); got != told {
			t.Errorf("%s, back: %s; want %s", what, got, told)
		}
		must(t, set(t, l, x.k), recovers())
		if got := tells(t, l, x.k, "a"); got != told {
			t.Errorf("%s, recovered again: %s; want %s", what, got, told)
		}
		wantTidy(t, what, l, x.k)
	})
}

// TestBackInTime: drives that come back take what was written without them, stopped anywhere, and put right with all of them.
func TestBackInTime(t *testing.T) {
	for _, gone := range [][]int{{0}, {3}} {
		for _, c := range []call{put("a", version("z", 4), text(50, 4)), put("a", version("x", 4), text(50, 4)), drop("a", "y")} {
			x := life{n: 4, k: 2, c: c, begin: []call{put("a", version("x", 1), text(40, 1)), put("a", version("y", 3), text(300, 3))}}
			begun := x.start(t)
			ahead, behind := x.ends(t)
			for stop := range x.stops(t, begun) {
				l := clones(begun)
				away(l, gone...)
				s := set(t, l, 2)
				drive.Fuse(l, stop)
				err := ask(s, c).err
				crash(l, nil)
				// They are back while the set is put right: they have nothing staged.
				back(l)
				what := fmt.Sprint(c, " with ", gone, " away, stopped at ", stop)
				want(t, what, step(t, what, s, l, recovers(), noFuse).err, api.OK)
				wantEnd(t, what, tells(t, l, 2, "a"), ahead, behind, err)
				wantTidy(t, what, l, 2)
			}
		}
	}
}

// TestRecoverStopped: Recover itself is stopped at each change, crashes, and is begun again: it comes to the same.
func TestRecoverStopped(t *testing.T) {
	eachLife(t, [][2]int{{2, 1}, {3, 1}, {3, 2}}, func(t *testing.T, what string, x life) {
		ahead, behind := x.ends(t)
		x.eachCrash(t, what, func(what string, begun drives, err api.Errno) {
			for n := 0; ; n++ {
				l, got := hold(t, what, begun, x.k, recovers(), n)
				line := fmt.Sprint(what, ", Recover stopped at ", n)
				for _, keeps := range keepings(l) {
					l := crashed(l, keeps)
					want(t, line, step(t, line, set(t, l, x.k), l, recovers(), noFuse).err, api.OK)
					wantEnd(t, line, tells(t, l, x.k, "a"), ahead, behind, err)
					wantTidy(t, line, l, x.k)
				}
				if got.err == api.OK {
					break
				}
				want(t, line, got.err, api.ErrBroken)
			}
		})
	})
}

// TestRecoverStoppedOften: stopped again and again, each time a bit later.
func TestRecoverStoppedOften(t *testing.T) {
	eachLife(t, [][2]int{{4, 2}}, func(t *testing.T, what string, x life) {
		ahead, behind := x.ends(t)
		x.eachCrash(t, what, func(what string, l drives, err api.Errno) {
			s := set(t, l, x.k)
			tries := 0
			for n := 0; ; n++ {
				got := step(t, what, s, l, recovers(), n)
				crash(l, []bool{n%2 == 0})
				if got.err == api.OK {
					break
				}
				want(t, what, got.err, api.ErrBroken)
				tries++
			}
			if tries < 12 {
				t.Errorf("%s: the boot files alone are 12 changes, but %d tries were stopped", what, tries)
			}
			wantEnd(t, what, tells(t, l, x.k, "a"), ahead, behind, err)
			wantTidy(t, what, l, x.k)
		})
	})
}

// TestStoppedWithFailed: drives that are full or away at the call, so that k + 1 are left.
func TestStoppedWithFailed(t *testing.T) {
	for why, disable := range unable() {
		for at := range 4 {
			x := life{n: 4, k: 2, c: put("a", version("x", 4), text(50, 4)), begin: []call{put("a", version("x", 1), text(40, 1)), put("a", version("y", 3), text(300, 3))}}
			x.spoil = func(l drives) { disable(l, at) }
			ahead, behind := x.ends(t)
			x.eachCrash(t, why, func(what string, l drives, err api.Errno) {
				want(t, what, step(t, what, set(t, l, x.k), l, recovers(), noFuse).err, api.OK)
				wantEnd(t, what, tells(t, l, x.k, "a"), ahead, behind, err)
				back(l)
				wantEnd(t, what+", back", tells(t, l, x.k, "a"), ahead, behind, err)
				want(t, what, step(t, what, set(t, l, x.k), l, recovers(), noFuse).err, api.OK)
				wantEnd(t, what+", recovered again", tells(t, l, x.k, "a"), ahead, behind, err)
				wantTidy(t, what, l, x.k)
			})
		}
	}
}

// TestStoppedNoQuorum: a write that is not done for want of drives, stopped anywhere: it is not done.
func TestStoppedNoQuorum(t *testing.T) {
	for why, disable := range unable() {
		for at := range 3 {
			x := life{n: 3, k: 2, begin: []call{put("a", version("x", 1), text(40, 1))}}
			begun := x.start(t)
			disable(begun, at)
			ahead := tells(t, begun, 2, "a")
			for _, c := range []call{put("a", version("x", 4), text(50, 4)), put("a", mark("x", 4), nil), drop("a", "x")} {
				for n := range 20 {
					l, got := hold(t, why, begun, 2, c, n)
					if got.err != api.ErrBroken && got.err != api.ErrQuorum {
						t.Errorf("%v, %d %s, stopped at %d: %v", c, at, why, n, got)
					}
					crash(l, nil)
					for range 2 {
						must(t, set(t, l, 2), recovers())
						if got := tells(t, l, 2, "a"); got != ahead {
							t.Errorf("%v, %d %s, stopped at %d: %s; want %s", c, at, why, n, got, ahead)
						}
						back(l)
					}
				}
			}
		}
	}
}

// holdBroken asks for a call behind a fuse of some drives alone, which breaks it for all: ErrBroken, with zero values, and nothing more is done of any drive.
func holdBroken(t *testing.T, what string, begun drives, k int, c call, fused []int, n int) {
	t.Helper()
	l, plain := clones(begun), clones(begun)
	var some, others drives
	for _, i := range fused {
		some, others = append(some, l[i]), append(others, plain[i])
	}
	drive.Fuse(some, n)
	drive.Fuse(others, n)
	got, wanted := ask(set(t, l, k), c), model{plain, k}.do(c)
	what = fmt.Sprintf("%s: %v, a fuse of %d on %v", what, c, n, fused)
	if !sameAnswer(got, wanted) {
		t.Errorf("%s: %v; want %v", what, got, wanted)
	}
	if stopped := slices.ContainsFunc(fused, func(i int) bool { return !l[i].Up() && begun[i].Up() }); stopped && !sameAnswer(got, refused(api.ErrBroken)) {
		t.Errorf("%s: %v", what, got)
	}
	wantDrives(t, what, l, plain)
}

// TestBrokenEachCall: ErrBroken of each call, whichever change a fuse of any drives stops.
func TestBrokenEachCall(t *testing.T) {
	for what, x := range lives(3, 1) {
		begun := x.start(t)
		for _, fused := range choices(3) {
			for n := range 12 {
				holdBroken(t, what, begun, 1, x.c, fused, n)
			}
		}
	}
	r := rand.New(rand.NewSource(1213))
	for range 40 {
		begun := drawnDrives(t, r, 3, 1)
		for _, fused := range choices(3) {
			for n := range 14 {
				holdBroken(t, "Recover", begun, 1, recovers(), fused, n)
			}
		}
	}
}
