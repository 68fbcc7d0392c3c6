package fan_test

import (
	"fmt"
	"math/rand"
	"slices"
	"strings"
	"testing"

	"stowage/api"
	"stowage/fan"
)

// wantCommit asks for which drives are well, and an error.
func wantCommit(t *testing.T, what string, l drives, files [][]api.File, need int, wanted []bool, wantedErr api.Errno) {
	t.Helper()
	if got, err := fan.Commit(l, files, need); !slices.Equal(got, wanted) || err != wantedErr {
		t.Errorf("%s: Commit(%d drives, %.300v, %d): %v, %v; want %v, %v", what, len(l), files, need, got, err, wanted, wantedErr)
	}
}

// wantRefused asks for an error that changes nothing.
func wantRefused(t *testing.T, what string, boxes []box, files [][]api.File, need int, wanted api.Errno) {
	t.Helper()
	l, was := makeAll(t, boxes)
	wantCommit(t, what, l, files, need, nil, wanted)
	wantBoxes(t, what, l, was)
}

// holdCommit holds Commit of drives like these against the model, and what stands behind it against what the document says follows.
func holdCommit(t *testing.T, what string, boxes []box, files [][]api.File, need int) {
	t.Helper()
	l, was := makeAll(t, boxes)
	changes, well, err := planCommit(was, files, need)
	wantCommit(t, what, l, files, need, well, err)
	wantBoxes(t, what, l, after(was, changes))
	if err != api.ErrBroken {
		wantEnd(t, what, l, was, files, well, need, err)
	}
}

// wantEnd asks for what follows (P10.6): on drives that did not fail just their files, synced, and on others all as it was, but what is staged.
func wantEnd(t *testing.T, what string, l drives, was []box, files [][]api.File, well []bool, need int, err api.Errno) {
	t.Helper()
	written := 0
	for i, b := range was {
		done := err == api.OK && well[i]
		if b.takes(files[i]) == len(files[i]) {
			written++
		}
		wanted := b.copied()
		for _, f := range files[i] {
			if done || !b.offline {
				delete(wanted.files, "tmp/"+f.Name)
			}
			if done {
				wanted.files[f.Name] = file{b: string(f.B)}
			}
		}
		wanted.ops = l[i].Ops()
		wantBoxes(t, fmt.Sprint(what, ": the end of drive ", i), l[i:i+1], []box{wanted})
	}
	if (written >= need) != (err == api.OK) {
		t.Errorf("%s: %d of %d drives could be written: %v", what, written, need, err)
	}
}

// TestCommitLists: there is one list a drive.
func TestCommitLists(t *testing.T) {
	for n := 1; n <= maxDrives; n++ {
		boxes := slices.Repeat([]box{on("a", "tmp/a")}, n)
		for _, lists := range []int{0, 1, n - 1, n, n + 1, 2 * n, 1000} {
			files := alike(lists, of("a", "b"))
			if lists == n {
				holdCommit(t, "as many lists", boxes, files, n)
				continue
			}
			wantRefused(t, "other lists", boxes, files, n, api.ErrArg)
			wantRefused(t, "other lists, empty ones", boxes, alike(lists, nil), n, api.ErrArg)
		}
		wantRefused(t, "no lists", boxes, nil, 1, api.ErrArg)
	}
}

// TestCommitNeed: need is from 1 to how many drives there are.
func TestCommitNeed(t *testing.T) {
	for _, n := range []int{1, 2, 3, 15, 16} {
		boxes := slices.Repeat([]box{on("a", "tmp/a")}, n)
		for _, need := range counts(n) {
			if need >= 1 && need <= n {
				holdCommit(t, "need", boxes, alike(n, of("a", "b")), need)
				holdCommit(t, "need of nothing", boxes, alike(n, nil), need)
				continue
			}
			wantRefused(t, "need", boxes, alike(n, of("a", "b")), need, api.ErrArg)
			wantRefused(t, "need of nothing", boxes, alike(n, nil), need, api.ErrArg)
		}
	}
}

// TestCommitLong: a list has up to 8 files, also if others have none.
func TestCommitLong(t *testing.T) {
	boxes := slices.Repeat([]box{on("n0", "tmp/n1")}, 3)
	for n := range 13 {
		many := of(numbered(n)...)
		for at := range 3 {
			unlike := alike(3, nil)
			unlike[at] = many
			others := alike(3, of("x"))
			others[at] = many
			for _, files := range [][][]api.File{alike(3, many), unlike, others} {
				if n <= 8 {
					holdCommit(t, "not too long", boxes, files, 2)
					continue
				}
				wantRefused(t, "too long", boxes, files, 2, api.ErrLong)
			}
		}
	}
	wantRefused(t, "far too long", boxes, alike(3, of(numbered(1000)...)), 2, api.ErrLong)
}

// TestCommitNames: a name that may not be, or may not be staged, at any place of any list, leaves all as it is.
func TestCommitNames(t *testing.T) {
	boxes := slices.Repeat([]box{on("a", "tmp/a")}, 3)
	wrong := slices.Concat(wrongNames, []string{"tmp/", "tmp/a", "tmp//", "tmp/tmp/a", strings.Repeat("n", 509), strings.Repeat("n", 510), strings.Repeat("n", 512)})
	for _, name := range wrong {
		for drive := range 3 {
			for at := range 3 {
				files := alike(3, of("a", "b"))
				files[drive] = slices.Insert(of("a", "b"), at, of(name)...)
				wantRefused(t, "a wrong name", boxes, files, 2, api.ErrName)
			}
		}
		wantRefused(t, "all wrong", boxes, alike(3, of(name)), 2, api.ErrName)
	}
	for _, name := range []string{"!", "~", "tmp", "tmpa", "TMP/a", "/tmp/a", "a/tmp/b", "j/x", "t", strings.Repeat("n", 507), strings.Repeat("n", 508)} {
		holdCommit(t, "a right name", slices.Repeat([]box{on("a").sized(3000)}, 3), alike(3, of("a", name)), 3)
	}
}

// TestCommitTwoOfOneName: one list has each name once; other lists may have it, too.
func TestCommitTwoOfOneName(t *testing.T) {
	boxes := slices.Repeat([]box{on("a", "tmp/a")}, 3)
	for drive := range 3 {
		for _, names := range [][]string{{"a", "a"}, {"a", "b", "a"}, {"b", "a", "a"}, {"a", "a", "b"}, {"a", "b", "c", "d", "e", "f", "g", "a"}, {"a", "b", "c", "d", "e", "f", "g", "g"}} {
			files := alike(3, of("x"))
			files[drive] = of(names...)
			wantRefused(t, "two of one name", boxes, files, 1, api.ErrName)
			// The same bytes make it no better.
			files[drive][len(names)-1].B = files[drive][0].B
			wantRefused(t, "two of one name", boxes, files, 1, api.ErrName)
		}
	}
	holdCommit(t, "one name in three lists", boxes, [][]api.File{of("a", "b"), of("b", "a"), of("a")}, 3)
	holdCommit(t, "names that begin alike", boxes, alike(3, of("a", "aa", "aaa", "A", "a/")), 3)
}

// TestCommitOrderOfErrors: of several errors the first that the chapter names is told.
func TestCommitOrderOfErrors(t *testing.T) {
	boxes := []box{on("a"), on("a").away(), on("a").broken()}
	long, wrong := of(numbered(9)...), of("a b")
	wantRefused(t, "a list too few, too long, wrong", boxes, [][]api.File{long, wrong}, 2, api.ErrArg)
	wantRefused(t, "need 0, too long, wrong", boxes, [][]api.File{long, wrong, nil}, 0, api.ErrArg)
	wantRefused(t, "wrong, then too long", boxes, [][]api.File{wrong, nil, long}, 2, api.ErrLong)
	wantRefused(t, "too long, all wrong", boxes, [][]api.File{slices.Repeat(wrong, 9), nil, nil}, 2, api.ErrLong)
	wantRefused(t, "wrong ahead of what is out", boxes, [][]api.File{nil, nil, wrong}, 2, api.ErrName)
	wantRefused(t, "wrong ahead of a quorum", boxes[1:2], [][]api.File{wrong}, 1, api.ErrName)
	wantRefused(t, "too long ahead of a quorum", boxes[1:2], [][]api.File{long}, 1, api.ErrLong)
	wantRefused(t, "need ahead of a quorum", boxes[1:2], [][]api.File{of("a")}, 2, api.ErrArg)
}

// befores are what may stand on a drive ahead of a Commit of a, b and c.
func befores() map[string]box {
	return map[string]box{
		"nothing": on(), "another file": on("x"), "the file": on("a", "b"), "it staged": on("tmp/a", "tmp/c"), "both": on("a", "tmp/a", "b", "tmp/b", "c", "tmp/c"),
		"both loose":             on().holding("a", "old", true).holding("tmp/a", "older", true).holding("tmp/c", "older", true),
		"others staged":          on("tmp/x", "tmp/aa", "tmp/"),
		"the file's bytes there": on().holding("a", "+a", true).holding("tmp/b", "+b", false),
	}
}

// TestCommitFails: drives that are offline, full, or full at some file; need - 1, need and need + 1 of them have not failed.
func TestCommitFails(t *testing.T) {
	for what, b := range befores() {
		// Each file of the list has 2 bytes; what stood under its staged name gives its room back.
		room := func(n int) box { return b.sized(max(1, b.used()) + n) }
		fails := map[string]box{"offline": b.away(), "full": b.filled(), "both": b.filled().away(), "no room": room(0), "room for one": room(2), "a byte too few": room(5), "room for most": room(6)}
		for why, bad := range fails {
			for n := 1; n <= 5; n++ {
				for failed := range n + 1 {
					boxes := slices.Concat(slices.Repeat([]box{bad}, failed), slices.Repeat([]box{b}, n-failed))
					for _, need := range []int{n - failed - 1, n - failed, n - failed + 1} {
						if need < 1 || need > n {
							continue
						}
						files := alike(n, of("a", "b", "c"))
						holdCommit(t, what+", "+why, boxes, files, need)
						slices.Reverse(boxes)
						holdCommit(t, what+", "+why+" at the end", boxes, files, need)
						slices.Reverse(boxes)
					}
				}
			}
		}
	}
}

// TestCommitOneByOne: what is told, and what stands, of three drives, said out.
func TestCommitOneByOne(t *testing.T) {
	good, old := on("x"), on("a", "tmp/a", "tmp/b")
	files := alike(3, of("a", "b"))
	// The second drive is filled up: it takes tmp/a, which is shorter than what it had there, but not the b that is longer.
	long := []api.File{{Name: "a", B: []byte("+a")}, {Name: "b", B: make([]byte, 100)}}
	l, _ := makeAll(t, []box{good, old.sized(old.used()), good})
	wantCommit(t, "full at the second file", l, [][]api.File{files[0], long, files[2]}, 2, []bool{true, false, true}, api.OK)
	for i, wanted := range []string{`"a": "+a" false, "b": "+b" false, "x": "x" false`, `"a": "a" false`, `"a": "+a" false, "b": "+b" false, "x": "x" false`} {
		if got := shown(filesOf(l[i])); got != wanted {
			t.Errorf("drive %d has %s; want %s", i, got, wanted)
		}
	}
	l, _ = makeAll(t, []box{good, old.away(), old.filled()})
	wantCommit(t, "one offline, one full, need 2", l, files, 2, nil, api.ErrQuorum)
	for i, wanted := range []string{`"x": "x" false`, `"a": "a" false, "tmp/a": "tmp/a" false, "tmp/b": "tmp/b" false`, `"a": "a" false`} {
		if got := shown(filesOf(l[i])); got != wanted {
			t.Errorf("drive %d has %s; want %s", i, got, wanted)
		}
	}
	l, _ = makeAll(t, []box{good, old.away(), old.filled()})
	wantCommit(t, "one offline, one full, need 1", l, files, 1, []bool{true, false, false}, api.OK)
	for i, wanted := range []string{`"a": "+a" false, "b": "+b" false, "x": "x" false`, `"a": "a" false, "tmp/a": "tmp/a" false, "tmp/b": "tmp/b" false`, `"a": "a" false`} {
		if got := shown(filesOf(l[i])); got != wanted {
			t.Errorf("drive %d has %s; want %s", i, got, wanted)
		}
	}
}

// TestCommitEmptyLists: a drive without files has not failed, also one that does not answer; it is not even asked.
func TestCommitEmptyLists(t *testing.T) {
	for what, b := range map[string]box{"there": on("a"), "offline": on("a").away(), "full": on("a").filled(), "out": on("a").broken()} {
		holdCommit(t, what, []box{b, b, b}, alike(3, nil), 3)
		holdCommit(t, what, []box{b, b, b}, alike(3, []api.File{}), 1)
		l, _ := makeAll(t, []box{b, on("a"), b, on("a").away()})
		wantCommit(t, what, l, [][]api.File{nil, of("a"), {}, of("a")}, 3, []bool{true, true, true, false}, api.OK)
		l, was := makeAll(t, []box{b, on("a"), b, on("a").away()})
		wantCommit(t, what, l, [][]api.File{nil, of("a"), {}, of("a")}, 4, nil, api.ErrQuorum)
		was[1].ops += 3
		wantBoxes(t, what, l, was)
	}
}

// TestCommitEmptyFiles: files without bytes are files, too; one that has just the room that is left is taken.
func TestCommitEmptyFiles(t *testing.T) {
	holdCommit(t, "no bytes", slices.Repeat([]box{on("a", "x").sized(2)}, 2), alike(2, []api.File{{Name: "a"}, {Name: "b", B: []byte{}}}), 2)
	for n := range 12 {
		files := alike(2, []api.File{{Name: "a", B: make([]byte, 5)}, {Name: "b", B: make([]byte, n)}})
		holdCommit(t, "the room that is left", []box{on("a").sized(11), on("tmp/b").sized(12)}, files, 1)
		holdCommit(t, "the room that is left", []box{on("a").sized(11), on("tmp/b").sized(12)}, files, 2)
	}
	big := []api.File{{Name: "a", B: make([]byte, 1<<20)}}
	holdCommit(t, "much", slices.Repeat([]box{on("a").sized(1<<21 + 1)}, 2), alike(2, big), 2)
}

// TestCommitSameDriveTwice: a Rename that finds nothing is an error, by which a drive fails once all are staged; its other files are not finished then, but go.
func TestCommitSameDriveTwice(t *testing.T) {
	for need := 1; need <= 3; need++ {
		d, e := on("x").make(t), on().make(t)
		wantCommit(t, "the same file twice", drives{d, e, d}, [][]api.File{of("a", "b"), of("a"), of("c", "a", "d")}, need, []bool{true, true, false}, api.OK)
		wantNames(t, "the same file twice", drives{d}, "", []string{"a", "b", "c", "x"}, api.OK)
		wantNames(t, "the same file twice", drives{e}, "", []string{"a"}, api.OK)
		if len(d.Loose()) != 0 {
			t.Error("something is loose")
		}
		d = on("x").make(t)
		wantCommit(t, "thrice", drives{d, d, d}, alike(3, of("a", "b")), need, []bool{true, false, false}, api.OK)
		wantNames(t, "thrice", drives{d}, "", []string{"a", "b", "x"}, api.OK)
		d = on("x").make(t)
		wantCommit(t, "unlike files", drives{d, d, d}, [][]api.File{of("a"), of("b"), of("c")}, need, []bool{true, true, true}, api.OK)
		wantNames(t, "unlike files", drives{d}, "", []string{"a", "b", "c", "x"}, api.OK)
	}
}

// TestCommitAgainstModel: drives and files drawn by chance, alike and unlike.
func TestCommitAgainstModel(t *testing.T) {
	r := rand.New(rand.NewSource(102))
	told := map[api.Errno]int{}
	for i := range 6000 {
		boxes, files, need := drawnCommit(r)
		_, _, err := planCommit(boxes, files, need)
		told[err]++
		holdCommit(t, fmt.Sprint("drawn ", i), boxes, files, need)
	}
	for _, err := range []api.Errno{api.OK, api.ErrQuorum, api.ErrBroken} {
		if told[err] < 100 {
			t.Errorf("%v was drawn %d times", err, told[err])
		}
	}
}

// drawnCommit draws what a Commit is handed.
func drawnCommit(r *rand.Rand) ([]box, [][]api.File, int) {
	n := 1 + r.Intn(6)
	var boxes []box
	var files [][]api.File
	one := drawnFiles(r)
	for range n {
		boxes = append(boxes, drawnBox(r))
		if r.Intn(2) == 0 {
			one = drawnFiles(r)
		}
		files = append(files, one)
	}
	return boxes, files, 1 + r.Intn(n)
}

// TestCommitMany: 16 drives with 8 files each.
func TestCommitMany(t *testing.T) {
	b := on("n3", "tmp/n5").sized(1 << 16)
	for bad := range maxDrives + 1 {
		boxes := slices.Concat(slices.Repeat([]box{b}, maxDrives-bad), slices.Repeat([]box{b.sized(b.used() + 9)}, bad))
		for _, need := range []int{1, 15 - bad, 16 - bad, 17 - bad, 16} {
			if need >= 1 && need <= maxDrives {
				holdCommit(t, "many", boxes, alike(maxDrives, of(numbered(8)...)), need)
			}
		}
	}
}

// TestCommitOnTop: one Commit behind another, each of which puts its files in the place of those ahead.
func TestCommitOnTop(t *testing.T) {
	l, _ := makeAll(t, slices.Repeat([]box{on("x")}, 3))
	for i := range 20 {
		text := []byte(strings.Repeat("v", i))
		wantCommit(t, "on top", l, alike(3, []api.File{{Name: "a", B: text}, {Name: fmt.Sprint("b", i%3), B: text}}), 3, []bool{true, true, true}, api.OK)
		wantRead(t, "on top", l, "a", slices.Repeat([]api.Copy{{B: text}}, 3), api.OK)
		l[i%3].Offline(true)
		wantCommit(t, "not on top", l, alike(3, of("a")), 3, nil, api.ErrQuorum)
		l[i%3].Offline(false)
		wantRead(t, "on top", l, "a", slices.Repeat([]api.Copy{{B: text}}, 3), api.OK)
	}
	wantNames(t, "on top", l, "", []string{"a", "b0", "b1", "b2", "x"}, api.OK)
}
