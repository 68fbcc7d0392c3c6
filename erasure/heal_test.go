package erasure_test

import (
	"fmt"
	"math/rand"
	"testing"

	"stowage/api"
)

// wantHeal asks how many files Heal lays.
func wantHeal(t *testing.T, what string, l drives, k int, path string, n int) {
	t.Helper()
	if got := step(t, what, set(t, l, k), l, heal(path), noFuse); !sameAnswer(got, answer{n: n}) {
		t.Errorf("%s: Heal: %v; want %d", what, got, n)
	}
}

// shardName is the name of the shard files of a version of the object a.
func shardName(n int) string { return "s/a-" + version("", n).Data }

// TestHealWell: where all is well nothing is laid, and nothing changed.
func TestHealWell(t *testing.T) {
	l, s := fresh(t, 4, 2)
	must(t, s, several()...)
	was := clones(l)
	wantHeal(t, "all is well", l, 2, "a", 0)
	wantHeal(t, "all is well", l, 2, "b", 0)
	wantDrives(t, "all is well", l, was)
	if got := step(t, "no such object", s, l, heal("none"), noFuse); !sameAnswer(got, answer{err: api.ErrMissing}) {
		t.Errorf("no such object: %v", got)
	}
}

// TestHealEmpty: drives that are empty are given all that they lack: of each version a file, and the journal.
func TestHealEmpty(t *testing.T) {
	begun, s := fresh(t, 4, 2)
	must(t, s, several()...)
	for _, gone := range choices(4) {
		l := clones(begun)
		for _, i := range gone {
			l[i] = made(t, 1, 1<<20)[0]
		}
		switch {
		case len(gone) == 4:
			if got := step(t, "all empty", set(t, l, 2), l, heal("a"), noFuse); !sameAnswer(got, answer{err: api.ErrMissing}) {
				t.Errorf("all empty: %v", got)
			}
		case len(gone) == 3:
			// No version is read: the journal alone comes to them.
			wantHeal(t, "three empty", l, 2, "a", 3)
			wantHeal(t, "three empty, again", l, 2, "a", 0)
		default:
			wantHeal(t, fmt.Sprint(gone, " empty"), l, 2, "a", 5*len(gone))
			wantHeal(t, fmt.Sprint(gone, " empty"), l, 2, "b", 2*len(gone))
			wantFiles(t, fmt.Sprint(gone, " empty"), l, begun)
		}
	}
}

// TestHealSpoiled: whatever became of files, on each choice of drives that leaves k.
func TestHealSpoiled(t *testing.T) {
	begun, s := fresh(t, 4, 2)
	must(t, s, several()...)
	for how, spoil := range spoilers(t) {
		for _, bad := range choices(4) {
			if len(bad) > 2 {
				continue
			}
			for _, names := range [][]string{{"j/a"}, {shardName(1)}, {shardName(3)}, {shardName(4), shardName(6)}, {"j/a", shardName(4)}, {"j/a", shardName(1), shardName(3), shardName(4), shardName(6)}} {
				// A file without bytes has no byte to be turned, and none to be cut off.
				if n := names[0]; n == shardName(3) && (how == "turned" || how == "turned last" || how == "cut" || how == "empty") {
					continue
				}
				l := clones(begun)
				n := 0
				for _, i := range bad {
					for _, name := range names {
						was := filesOf(l[i])[name]
						spoil(l, i, name)
						if now, there := filesOf(l[i])[name]; !there || now != was {
							n++
						}
					}
				}
				wantHeal(t, fmt.Sprint(names, " ", how, " on ", bad), l, 2, "a", n)
				wantFiles(t, fmt.Sprint(names, " ", how, " on ", bad), l, begun)
				wantHeal(t, "again", l, 2, "a", 0)
			}
		}
	}
}

// TestHealSome: versions that fewer than k drives have are passed over; the others, and the journal, are put right.
func TestHealSome(t *testing.T) {
	begun, s := fresh(t, 4, 2)
	must(t, s, several()...)
	for lost := range map[int]int{1: 0, 3: 0, 4: 0, 6: 0} {
		l := clones(begun)
		for i := range 3 {
			l[i].Delete(shardName(lost))
		}
		for _, n := range []int{1, 3, 4, 6} {
			l[3].Delete(shardName(n))
		}
		l[2].Delete("j/a")
		wantHeal(t, fmt.Sprint("version ", lost, " is lost"), l, 2, "a", 4)
		if count(l, shardName(lost)) != 0 || count(l, "s/a-") != 12 || count(l, "j/a") != 4 {
			t.Errorf("version %d is lost: %d shard files", lost, count(l, "s/a-"))
		}
	}
	// Of a version with shards of other bytes nothing is laid, either.
	l := clones(begun)
	for i := range l {
		raw(t, l[i], shardName(4), []byte(filesOf(l[i])[shardName(6)].b))
		l[0].Delete("j/a")
	}
	wantHeal(t, "other bytes", l, 2, "a", 1)
}

// TestHealMarks: an object of marks, or of no versions, has a journal alone.
func TestHealMarks(t *testing.T) {
	for what, calls := range map[string][]call{"marks": {put("a", mark("x", 1), nil), put("a", mark("y", 2), nil)}, "nothing": {put("a", version("x", 1), []byte("abc")), drop("a", "x")}} {
		begun, s := fresh(t, 3, 1)
		must(t, s, calls...)
		l := clones(begun)
		wantHeal(t, what, l, 1, "a", 0)
		l[0].Delete("j/a")
		l[2].Turn("j/a", 4, 1)
		wantHeal(t, what, l, 1, "a", 2)
		wantFiles(t, what, l, begun)
	}
}

// TestHealAway: drives that are away are left as they are, and are not counted; when they are back, they are put right.
func TestHealAway(t *testing.T) {
	for _, gone := range choices(5) {
		if len(gone) > 2 {
			continue
		}
		l, s := fresh(t, 5, 2)
		must(t, s, put("a", version("x", 1), text(50, 1)))
		away(l, gone...)
		must(t, s, put("a", version("y", 2), text(60, 2)), put("a", version("z", 3), text(70, 3)))
		wantHeal(t, fmt.Sprint(gone, " away"), l, 2, "a", 0)
		back(l)
		wantHeal(t, fmt.Sprint(gone, " back"), l, 2, "a", 3*len(gone))
		fresh, other := fresh(t, 5, 2)
		must(t, other, put("a", version("x", 1), text(50, 1)), put("a", version("y", 2), text(60, 2)), put("a", version("z", 3), text(70, 3)))
		wantFiles(t, fmt.Sprint(gone, " back"), l, fresh)
	}
	l, s := fresh(t, 3, 2)
	must(t, s, put("a", version("x", 1), text(50, 1)))
	away(l, 0, 1)
	if got := step(t, "few drives", s, l, heal("a"), noFuse); !sameAnswer(got, answer{err: api.ErrQuorum}) {
		t.Errorf("few drives: %v", got)
	}
}

// TestHealNoRoom: a drive without room for a shard file is given the journal, if that fits; what did not fit is not counted.
func TestHealNoRoom(t *testing.T) {
	b := text(3000, 1)
	begun, s := fresh(t, 3, 1)
	must(t, s, put("a", version("x", 1), b), put("a", version("y", 2), text(10, 2)))
	sizes := filesOf(begun[0])
	journal, small, great := len(sizes["j/a"].b), len(sizes[shardName(2)].b), len(sizes[shardName(1)].b)
	for _, c := range []struct{ room, n int }{
		{1, 0}, {small, 0}, {journal - 1, 0}, {journal, 1}, {journal + small - 1, 1}, {journal + small, 2}, {journal + small + great - 1, 2}, {journal + small + great, 3}, {1 << 20, 3},
	} {
		l := clones(begun)
		l[1] = made(t, 1, c.room)[0]
		wantHeal(t, fmt.Sprint("room for ", c.room), l, 1, "a", c.n)
	}
	l := clones(begun)
	l[1] = made(t, 1, 1<<20)[0]
	l[1].Full(true)
	wantHeal(t, "full", l, 1, "a", 0)
	l[1].Full(false)
	wantHeal(t, "full no more", l, 1, "a", 3)
}

// TestHealOrder: from the newest version on, the journal with the first of them; drive by drive.
func TestHealOrder(t *testing.T) {
	begun, s := fresh(t, 3, 2)
	must(t, s, put("a", version("x", 1), text(50, 1)), put("a", mark("m", 2), nil), put("a", version("y", 3), text(60, 3)))
	begun[1] = made(t, 1, 1<<20)[0]
	for n, wanted := range []int{0, 1, 1, 2, 2, 2, 2, 3, 3, 3} {
		l, got := hold(t, "in order", begun, 2, heal("a"), n)
		has := filesOf(l[1])
		_, newest := has[shardName(3)]
		_, oldest := has[shardName(1)]
		if len(has) != wanted || newest != (n >= 5) || oldest != (n >= 9) || got.err != map[bool]api.Errno{true: api.OK, false: api.ErrBroken}[n == 9] {
			t.Errorf("behind %d changes: %s, %v", n, shown(has), got.err)
		}
	}
}

// TestHealOrderLost: a version that is not read does not bring the journal; it comes with the first one that is read, or at last.
func TestHealOrderLost(t *testing.T) {
	for _, lost := range [][]int{{3}, {1}, {1, 3}} {
		begun, s := fresh(t, 3, 2)
		must(t, s, put("a", version("x", 1), text(50, 1)), put("a", version("y", 3), text(60, 3)))
		begun[1] = made(t, 1, 1<<20)[0]
		for _, n := range lost {
			begun[0].Delete(shardName(n))
		}
		all := 3 * (3 - len(lost))
		for n := range all + 1 {
			_, got := hold(t, fmt.Sprint(lost, " lost"), begun, 2, heal("a"), n)
			want(t, fmt.Sprint(lost, " lost, stopped at ", n), got.err, map[bool]api.Errno{true: api.OK, false: api.ErrBroken}[n == all])
		}
	}
}

// TestHealDrawn: objects and what became of them drawn by chance.
func TestHealDrawn(t *testing.T) {
	r := rand.New(rand.NewSource(1206))
	for i := range 300 {
		n := 2 + r.Intn(5)
		k := 1 + r.Intn(n-1)
		l, s := fresh(t, n, k)
		for at := range 1 + r.Intn(6) {
			c := put("a", version(fmt.Sprint("v", r.Intn(5)), at), text(r.Intn(900), at))
			if r.Intn(4) == 0 {
				c = put("a", mark(fmt.Sprint("v", r.Intn(5)), at), nil)
			}
			for _, d := range l {
				d.Offline(r.Intn(6) == 0)
			}
			ask(s, c)
		}
		spoilDrawn(t, r, l)
		for _, d := range l {
			d.Full(r.Intn(6) == 0)
			d.Offline(r.Intn(6) == 0)
		}
		for _, c := range []call{heal("a"), get("a", ""), heal("a")} {
			step(t, fmt.Sprint("drawn ", i), s, l, c, noFuse)
		}
	}
}

// spoilDrawn does by chance to drives' files what may become of them.
func spoilDrawn(t *testing.T, r *rand.Rand, l drives) {
	t.Helper()
	for _, d := range l {
		d.Offline(false)
		if r.Intn(3) > 0 {
			continue
		}
		names, _ := d.List("")
		for _, name := range names {
			switch r.Intn(4) {
			case 0:
				d.Delete(name)
			case 1:
				d.Turn(name, r.Intn(60), byte(1+r.Intn(255)))
			}
		}
	}
}
