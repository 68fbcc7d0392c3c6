package fan_test

import (
	"fmt"
	"slices"
	"strings"
	"testing"

	"stowage/api"
	"stowage/drive"
	"stowage/fan"
)

// lit gives drives that are not out a fuse of n together (none below 0), and tells which ones have it.
func lit(l drives, boxes []box, n int) []int {
	if n < 0 {
		return nil
	}
	var fused []int
	for i, b := range boxes {
		if !b.out {
			fused = append(fused, i)
		}
	}
	drive.Fuse(some(l, fused), n)
	return fused
}

// stopped tells what is done of changes behind a fuse, and what is answered: ErrBroken, with nothing beside it, if it stops one.
func stopped(changes []change, n int, err api.Errno, fused []int, fuse int) ([]change, int, api.Errno) {
	if fuse < 0 {
		return changes, n, err
	}
	done, stops := upTo(changes, fused, fuse)
	if stops {
		return done, 0, api.ErrBroken
	}
	return done, n, err
}

// holdDelete holds Delete of drives like these, with a fuse of them all, against the model.
func holdDelete(t *testing.T, boxes []box, names []string, fuse int) {
	t.Helper()
	l, was := makeAll(t, boxes)
	fused := lit(l, was, fuse)
	changes, n, err := planDelete(was, names)
	changes, n, err = stopped(changes, n, err, fused, fuse)
	what := fmt.Sprintf("a fuse of %d", fuse)
	wantDelete(t, what, l, names, n, err)
	wantBoxes(t, what, l, after(was, changes))
}

// holdClean does so with Clean.
func holdClean(t *testing.T, boxes []box, prefix string, fuse int) {
	t.Helper()
	l, was := makeAll(t, boxes)
	fused := lit(l, was, fuse)
	changes, n, err := planClean(was, prefix)
	changes, n, err = stopped(changes, n, err, fused, fuse)
	what := fmt.Sprintf("a fuse of %d", fuse)
	wantClean(t, what, l, prefix, n, err)
	wantBoxes(t, what, l, after(was, changes))
}

// holdFinish does so with Finish.
func holdFinish(t *testing.T, b box, names []string, fuse int) {
	t.Helper()
	l, was := makeAll(t, []box{b})
	fused := lit(l, was, fuse)
	changes, err := planFinish(was[0], names)
	changes, _, err = stopped(changes, 0, err, fused, fuse)
	what := fmt.Sprintf("Finish(%.60q), a fuse of %d", names, fuse)
	want(t, what, fan.Finish(l[0], names), err)
	wantBoxes(t, what, l, after(was, changes))
}

// TestDelete: files go where they are, and as many are told.
func TestDelete(t *testing.T) {
	boxes := []box{on("a", "b", "tmp/a"), on("b", "c"), on("a", "b").away(), on(), on("a", "b", "x").filled(), on("b").holding("a", "", true)}
	cases := []struct {
		names  []string
		wanted int
	}{
		{nil, 0}, {[]string{}, 0}, {[]string{"a"}, 3}, {[]string{"b"}, 4}, {[]string{"a", "b"}, 7}, {[]string{"b", "a"}, 7}, {[]string{"none"}, 0}, {[]string{"none", "a", "no"}, 3},
		{[]string{"a", "a", "a"}, 3}, {[]string{"tmp/a"}, 1}, {[]string{"c", "x"}, 2}, {[]string{"a", "b", "c", "x", "tmp/a"}, 10}, {[]string{"A", "aa", "tmp/", "tmp"}, 0},
	}
	for _, c := range cases {
		l, was := makeAll(t, boxes)
		wantDelete(t, "some drives", l, c.names, c.wanted, api.OK)
		for i := range was {
			for _, name := range c.names {
				if !was[i].offline {
					if _, there := was[i].files[name]; there {
						was[i].ops++
					}
					delete(was[i].files, name)
				}
			}
		}
		wantBoxes(t, "Delete", l, was)
		holdDelete(t, boxes, c.names, -1)
	}
}

// TestDeleteHowMany: up to 128 names are taken, of drives that have all of them, some and none.
func TestDeleteHowMany(t *testing.T) {
	for _, n := range []int{1, 16} {
		for _, count := range []int{0, 1, 127, 128, 129, 130, 256, 1 << 12} {
			names := numbered(count)
			for _, b := range []box{on(names[:min(128, count)]...), on(), on("n0"), on("n127")} {
				l, was := makeAll(t, slices.Repeat([]box{b}, n))
				if count > 128 {
					wantDelete(t, "too many", l, names, 0, api.ErrLong)
					wantDelete(t, "too many, also wrong ones", l, append([]string{"a b"}, names...), 0, api.ErrLong)
					wantDelete(t, "too many of one name", l, slices.Repeat([]string{"n0"}, count), 0, api.ErrLong)
					wantBoxes(t, "Delete", l, was)
					continue
				}
				there := 0
				for _, name := range names {
					if _, is := b.files[name]; is {
						there++
					}
				}
				wantDelete(t, "not too many", l, names, n*there, api.OK)
				wantNames(t, "not too many", l, "", b.rest(names), api.OK)
			}
		}
	}
}

// rest are the names of a box that are none of these.
func (b box) rest(names []string) []string {
	return slices.DeleteFunc(b.names(), func(name string) bool { return slices.Contains(names, name) })
}

// TestDeleteNames: a name that may not be, at any place, leaves all as it is.
func TestDeleteNames(t *testing.T) {
	for _, name := range wrongNames {
		for at := range 3 {
			names := slices.Insert([]string{"a", "b"}, at, name)
			for what, b := range map[string]box{"there": on("a", "b"), "offline": on("a", "b").away(), "out": on("a", "b").broken()} {
				l, was := makeAll(t, []box{on("a", "b"), b})
				wantDelete(t, what, l, names, 0, api.ErrName)
				wantBoxes(t, what, l, was)
			}
		}
		l, was := makeAll(t, []box{on(numbered(128)...)})
		wantDelete(t, "the last of 128", l, append(numbered(127), name), 0, api.ErrName)
		wantBoxes(t, "the last of 128", l, was)
	}
	for _, name := range rightNames {
		l, _ := makeAll(t, []box{on(name), on(), on(name)})
		wantDelete(t, "a right name", l, []string{name}, 2, api.OK)
		wantNames(t, "a right name", l, "", nil, api.OK)
	}
}

// TestDeleteBroken: a drive that is out, or a fuse, ends the call at once.
func TestDeleteBroken(t *testing.T) {
	for _, names := range [][]string{nil, {"a"}, {"none"}, {"none", "b", "a"}, {"a", "a", "b"}} {
		for at := range 4 {
			for _, out := range []box{on("a", "b").broken(), on().broken(), on("a").away().broken()} {
				boxes := slices.Insert([]box{on("a", "b"), on("a", "b").away(), on("a", "b")}, at, out)
				holdDelete(t, boxes, names, -1)
				l, was := makeAll(t, boxes)
				if len(names) == 0 {
					wantDelete(t, "no drive is asked", l, names, 0, api.OK)
					continue
				}
				wantDelete(t, "one is out", l, names, 0, api.ErrBroken)
				wantBoxes(t, "behind the one that is out", l[at:], was[at:])
			}
		}
		for fuse := range 9 {
			holdDelete(t, []box{on("a", "b"), on("b"), on("a").away(), on("a", "b")}, names, fuse)
		}
	}
	l, _ := makeAll(t, []box{on("a"), on("a"), on("a")})
	drive.Fuse(l[1:2], 0)
	wantDelete(t, "a fuse of the second one", l, []string{"a"}, 0, api.ErrBroken)
	wantNames(t, "a fuse of the second one", l[2:], "", []string{"a"}, api.OK)
	wantNames(t, "a fuse of the second one", l[:1], "", nil, api.OK)
}

// TestClean: of each drive that lists them the staged files that begin so go, and no other ones.
func TestClean(t *testing.T) {
	boxes := []box{
		on("a", "tmp/a", "tmp/ab", "tmp/j/x", "tmpa", "tmp", "j/x"), on("tmp/b", "b"), on("tmp/a", "tmp/b").away(), on(), on("tmp/a").filled(),
		on("a").holding("tmp/ab", "", true), on("tmp/tmp/a", "tmp/"),
	}
	cases := map[string]int{
		"": 8, "a": 4, "ab": 2, "abc": 0, "b": 1, "j": 1, "j/": 1, "j/x": 1, "j/xx": 0, "tmp": 1, "tmp/": 1, "tmp/a": 1, "/": 0, " ": 0, "\x00": 0, "é": 0,
		strings.Repeat("a", 512): 0, strings.Repeat("a", 1<<20): 0,
	}
	for prefix, wanted := range cases {
		l, was := makeAll(t, boxes)
		wantClean(t, "some drives", l, prefix, wanted, api.OK)
		for i := range was {
			for name := range was[i].files {
				if strings.HasPrefix(name, "tmp/"+prefix) && !was[i].offline {
					delete(was[i].files, name)
					was[i].ops++
				}
			}
		}
		wantBoxes(t, "Clean", l, was)
		wantClean(t, "once more", l, prefix, 0, api.OK)
		holdClean(t, boxes, prefix, -1)
	}
	for _, n := range []int{1, 15, 16} {
		l, _ := makeAll(t, slices.Repeat([]box{on("tmp/a", "tmp/b", "c")}, n))
		wantClean(t, "all alike", l, "", 2*n, api.OK)
		wantNames(t, "all alike", l, "", []string{"c"}, api.OK)
		l, was := makeAll(t, slices.Repeat([]box{on("tmp/a", "tmp/b", "c").away()}, n))
		wantClean(t, "all offline", l, "", 0, api.OK)
		wantBoxes(t, "all offline", l, was)
	}
}

// TestCleanMany: how many staged files a drive has is not bounded; a name of the greatest length goes, too.
func TestCleanMany(t *testing.T) {
	b := box{size: 1 << 20, files: map[string]file{}}
	for _, name := range numbered(1000) {
		b.files["tmp/"+name] = file{b: name}
	}
	b.files["tmp/"+strings.Repeat("n", 508)] = file{}
	l, _ := makeAll(t, []box{b, b})
	wantClean(t, "many", l, "", 2002, api.OK)
	wantNames(t, "many", l, "", nil, api.OK)
}

// TestCleanBroken: a drive that is out ends the call also where it has nothing to delete; and the files go by rising names, as a fuse shows.
func TestCleanBroken(t *testing.T) {
	for at := range 4 {
		for _, out := range []box{on("tmp/a").broken(), on().broken(), on("tmp/a").away().broken()} {
			boxes := slices.Insert([]box{on("tmp/a", "tmp/b"), on("tmp/a").away(), on("tmp/b", "tmp/c")}, at, out)
			for _, prefix := range []string{"", "b", "none"} {
				holdClean(t, boxes, prefix, -1)
			}
			l, was := makeAll(t, boxes)
			wantClean(t, "one is out", l, "", 0, api.ErrBroken)
			wantBoxes(t, "behind the one that is out", l[at:], was[at:])
		}
	}
	for fuse := range 9 {
		holdClean(t, []box{on("tmp/c", "tmp/a", "tmp/b", "a"), on("tmp/a").away(), on("b"), on("tmp/b", "tmp/a")}, "", fuse)
	}
	l, _ := makeAll(t, []box{on("tmp/c", "tmp/a", "tmp/b"), on("tmp/a")})
	drive.Fuse(l[:1], 2)
	wantClean(t, "a fuse of 2", l, "", 0, api.ErrBroken)
	if f := filesOf(l[0]); len(f) != 1 || f["tmp/c"].b != "tmp/c" || len(filesOf(l[1])) != 1 {
		t.Errorf("a fuse of 2: %s stands, %s", shown(f), shown(filesOf(l[1])))
	}
}
