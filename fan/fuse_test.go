package fan_test

import (
	"fmt"
	"math/rand"
	"slices"
	"testing"

	"stowage/api"
	"stowage/drive"
	"stowage/fan"
)

// keepings are what a crash may keep of the loose files.
func keepings() map[string][]bool {
	return map[string][]bool{"none": nil, "all": slices.Repeat([]bool{true}, 40), "the first": {true}, "the second": {false, true}, "each other": {true, false, true, false, true}}
}

// holdFuse commits with a fuse of some drives that lets n changes by, holds what stands against the model, crashes all, and brings it to an end.
func holdFuse(t *testing.T, what string, boxes []box, files [][]api.File, need int, fused []int, n int, keeps []bool) {
	t.Helper()
	l, was := makeAll(t, boxes)
	changes, well, err := planCommit(was, files, need)
	done, stops := upTo(changes, fused, n)
	if stops {
		well, err = nil, api.ErrBroken
	}
	want(t, what, drive.Fuse(some(l, fused), n), api.OK)
	wantCommit(t, what, l, files, need, well, err)
	now := after(was, done)
	wantBoxes(t, what, l, now)
	for i, d := range l {
		if out := stops && slices.Contains(fused, i) || boxes[i].out; d.Up() != !(out || boxes[i].offline) {
			t.Errorf("%s: drive %d is up: %v", what, i, d.Up())
		}
		d.Crash(keeps)
		now[i] = crashed(now[i], keeps)
	}
	wantBoxes(t, what+", crashed", l, now)
	wantSafe(t, what, l, was, files, done)
}

// wantSafe asks behind a crash for what follows (P10.7): if a file is finished anywhere, drives that did not fail have all theirs, staged or finished, and Finish brings them under their names.
func wantSafe(t *testing.T, what string, l drives, was []box, files [][]api.File, done []change) {
	t.Helper()
	if !slices.ContainsFunc(done, func(c change) bool { return c.kind == "rename" }) {
		return
	}
	for i, d := range l {
		if was[i].takes(files[i]) < len(files[i]) {
			continue
		}
		var names []string
		has := filesOf(d)
		for _, f := range files[i] {
			names = append(names, f.Name)
			_, staged := has["tmp/"+f.Name]
			if wanted := (file{b: string(f.B)}); has[f.Name] != wanted && has["tmp/"+f.Name] != wanted {
				t.Errorf("%s: drive %d has %q neither staged nor finished: %s", what, i, f.Name, shown(has))
			} else if staged && has["tmp/"+f.Name] != wanted {
				t.Errorf("%s: drive %d has another %q staged: %s", what, i, f.Name, shown(has))
			}
		}
		if len(names) == 0 {
			continue
		}
		want(t, what, fan.Finish(d, names), api.OK)
		for _, f := range files[i] {
			has := filesOf(d)
			if _, staged := has["tmp/"+f.Name]; staged || has[f.Name] != (file{b: string(f.B)}) {
				t.Errorf("%s: drive %d has %q not finished: %s", what, i, f.Name, shown(has))
			}
		}
	}
}

// fuseEach does so for each count of changes, one beyond all, and each way to crash.
func fuseEach(t *testing.T, what string, boxes []box, files [][]api.File, need int, fused []int) {
	t.Helper()
	changes, _, _ := planCommit(boxes, files, need)
	for n := range len(changes) + 2 {
		for how, keeps := range keepings() {
			holdFuse(t, fmt.Sprintf("%s, a fuse of %d, kept: %s", what, n, how), boxes, files, need, fused, n, keeps)
		}
	}
}

// TestFuse: drives of each kind, with one file and with more, alike and unlike.
func TestFuse(t *testing.T) {
	fresh, old := on(), on("a", "tmp/a", "b", "x").holding("tmp/b", "loose", true).holding("c", "loose", true)
	sets := map[string][]box{
		"one": {fresh}, "one with files": {old}, "two": {fresh, old}, "three": {fresh, old, fresh}, "one offline": {old, old.away(), fresh},
		"one full": {old.filled(), old, fresh}, "one full later": {old, fresh, old.sized(old.used() + 1)}, "two offline": {old.away(), fresh, old.away()}, "one out": {fresh, old, old.broken()},
		"five": {fresh, old.away(), old, old.sized(old.used() + 2), fresh},
	}
	for what, boxes := range sets {
		n := len(boxes)
		lists := map[string][][]api.File{"a": alike(n, of("a")), "more": alike(n, of("b", "a", "c")), "none": alike(n, nil), "unlike": nil}
		for i := range n {
			lists["unlike"] = append(lists["unlike"], [][]api.File{of("a", "c"), of("b"), nil, of("d", "a"), of("e")}[i])
		}
		for which, files := range lists {
			for need := 1; need <= n; need++ {
				fuseEach(t, what+", "+which, boxes, files, need, places(n))
			}
		}
	}
}

// TestFuseOfSome: a fuse of some drives stops the call of all.
func TestFuseOfSome(t *testing.T) {
	old := on("a", "tmp/a", "b")
	boxes := []box{old, on(), old.away(), old}
	for _, fused := range [][]int{{0}, {1}, {2}, {3}, {0, 1}, {1, 3}, {0, 2, 3}} {
		for need := 1; need <= 4; need++ {
			fuseEach(t, fmt.Sprint("fused ", fused), boxes, alike(4, of("a", "b")), need, fused)
		}
	}
}

// TestFuseDrawn: drives, files, fuses and crashes drawn by chance.
func TestFuseDrawn(t *testing.T) {
	r := rand.New(rand.NewSource(107))
	for i := range 4000 {
		boxes, files, need := drawnCommit(r)
		var fused []int
		for at, b := range boxes {
			if !b.out && r.Intn(5) > 0 {
				fused = append(fused, at)
			}
		}
		keeps := make([]bool, r.Intn(12))
		for at := range keeps {
			keeps[at] = r.Intn(2) == 0
		}
		holdFuse(t, fmt.Sprint("drawn ", i), boxes, files, need, fused, r.Intn(25), keeps)
	}
}

// TestFuseAtEachCall: where a fuse stops a Commit of one drive: at the Write, the Sync, the Rename and the Delete.
func TestFuseAtEachCall(t *testing.T) {
	cases := []struct {
		what   string
		b      box
		n      int
		wanted string
	}{
		{"at the first Write", on("a"), 0, `"a": "a" false`},
		{"at the first Sync", on("a"), 1, `"a": "a" false, "tmp/a": "+a" true`},
		{"at the second Write", on("a"), 2, `"a": "a" false, "tmp/a": "+a" false`},
		{"at the second Sync", on("a"), 3, `"a": "a" false, "tmp/a": "+a" false, "tmp/b": "+b" true`},
		{"at the first Rename", on("a"), 4, `"a": "a" false, "tmp/a": "+a" false, "tmp/b": "+b" false`},
		{"at the second Rename", on("a"), 5, `"a": "+a" false, "tmp/b": "+b" false`},
		{"at no call", on("a"), 6, `"a": "+a" false, "b": "+b" false`},
		{"at the first Delete", on("a").sized(4), 2, `"a": "a" false, "tmp/a": "+a" false`},
		{"at no Delete", on("a").sized(4), 3, `"a": "a" false`},
	}
	for _, c := range cases {
		l, _ := makeAll(t, []box{c.b})
		drive.Fuse(l, c.n)
		_, err := fan.Commit(l, alike(1, of("a", "b")), 1)
		switch {
		case c.what == "at no call":
			want(t, c.what, err, api.OK)
		case c.what == "at no Delete":
			want(t, c.what, err, api.ErrQuorum)
		default:
			want(t, c.what, err, api.ErrBroken)
		}
		if got := shown(filesOf(l[0])); got != c.wanted {
			t.Errorf("%s: %s; want %s", c.what, got, c.wanted)
		}
	}
}

// TestOut: a drive that was out ahead of the call ends it at its first call; nothing more is done, of no drive.
func TestOut(t *testing.T) {
	for at := range 4 {
		for _, out := range []box{on("a", "tmp/a").broken(), on("a").away().broken(), on().filled().broken()} {
			boxes := slices.Insert([]box{on("a", "tmp/a"), on("a").away(), on("tmp/b")}, at, out)
			for need := 1; need <= 4; need++ {
				holdCommit(t, "one is out", boxes, alike(4, of("a", "b")), need)
				l, was := makeAll(t, boxes)
				wantCommit(t, "one is out", l, alike(4, of("a", "b")), need, nil, api.ErrBroken)
				wantBoxes(t, "behind the one that is out", l[at:], was[at:])
				for i, d := range l[:at] {
					if f := filesOf(d); !boxes[i].offline && (f["tmp/a"] != (file{b: "+a"}) || f["tmp/b"] != (file{b: "+b"})) {
						t.Errorf("ahead of the one that is out: drive %d has %s", i, shown(f))
					}
				}
			}
		}
	}
}
