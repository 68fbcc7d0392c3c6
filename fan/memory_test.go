package fan_test

import (
	"bytes"
	"slices"
	"testing"

	"stowage/api"
	"stowage/drive"
	"stowage/fan"
)

// What stands in spare room.
const (
	spare = 0xAB
	room  = 20
)

// roomy is a copy of a list with marked room behind it.
func roomy[T any](l []T, mark T) []T {
	all := slices.Concat(l, slices.Repeat([]T{mark}, room))
	return all[:len(l):len(all)]
}

// behind is the spare room of a list.
func behind[T any](l []T) []T { return l[:cap(l)][len(l):] }

// fill writes all over a list and its spare room.
func fill[T any](l []T, v T) {
	l = l[:cap(l)]
	for i := range l {
		l[i] = v
	}
}

// markFile and markList are what stands in the room of files: a file that would be laid if it were looked at, and one that may not be.
func markFile() api.File   { return api.File{Name: "spare", B: []byte("spare")} }
func markList() []api.File { return []api.File{{Name: "a b"}} }

// roomyFiles are copies of lists with room behind each.
func roomyFiles(files [][]api.File) [][]api.File {
	all := roomy(files, markList())
	for i, list := range files {
		all[i] = roomy(list, markFile())
		for j, f := range list {
			all[i][j].B = roomy(f.B, spare)
		}
	}
	return all
}

func sameFile(a, b api.File) bool   { return a.Name == b.Name && bytes.Equal(a.B, b.B) }
func sameList(a, b []api.File) bool { return slices.EqualFunc(a, b, sameFile) }

// untouched tells whether lists are as they were, and their room, too.
func untouched(files, was [][]api.File) bool {
	for _, list := range files {
		for _, f := range list {
			if !bytes.Equal(behind(f.B), bytes.Repeat([]byte{spare}, room)) {
				return false
			}
		}
		if !sameList(behind(list), slices.Repeat([]api.File{markFile()}, room)) {
			return false
		}
	}
	return slices.EqualFunc(files, was, sameList) && slices.EqualFunc(behind(files), slices.Repeat([][]api.File{markList()}, room), sameList)
}

// fillFiles writes all over what may be reached from lists.
func fillFiles(files [][]api.File) {
	for _, list := range files {
		for _, f := range list {
			fill(f.B, 9)
		}
		fill(list, api.File{Name: "filled"})
	}
	fill(files, nil)
}

// roomyDrives is the list with room behind it, in which a drive stands.
func roomyDrives(t *testing.T, l drives) (drives, *drive.Drive) {
	mark := on("a", "b", "tmp/a").make(t)
	return roomy(l, mark), mark
}

// wantDrives asks whether a list of drives is as it was, and nothing was done to the drive in its room.
func wantDrives(t *testing.T, what string, l, was drives, mark *drive.Drive) {
	t.Helper()
	if !slices.Equal(l, was) || !slices.Equal(behind(l), slices.Repeat(drives{mark}, room)) {
		t.Errorf("%s: the list of drives was changed", what)
	}
	if mark.Ops() != 6 || len(filesOf(mark)) != 3 || !mark.Up() {
		t.Errorf("%s: the drive in the room was changed", what)
	}
}

// TestCommitChangesNothing: what Commit is handed is as it was behind it, whatever it answers, and its room is not read.
func TestCommitChangesNothing(t *testing.T) {
	good := on("a", "tmp/a")
	cases := map[string][]box{
		"well": {good, good, good}, "one offline": {good, good.away(), good}, "one full": {good, good, good.sized(good.used())}, "too few": {good.away(), good, good.filled()}, "one out": {good, good.broken(), good},
	}
	lists := [][][]api.File{alike(3, of("a", "b")), {of("a"), nil, of("b", "c", "d")}, alike(3, of("a b")), alike(3, of("a", "a")), alike(3, of(numbered(9)...)), alike(3, nil), alike(2, nil), nil}
	for what, boxes := range cases {
		for _, wasFiles := range lists {
			made, was := makeAll(t, boxes)
			l, mark := roomyDrives(t, made)
			files := roomyFiles(wasFiles)
			well, err := fan.Commit(l, files, 2)
			if !untouched(files, wasFiles) {
				t.Errorf("%s: the files were changed", what)
			}
			wantDrives(t, what, l, made, mark)
			other, _ := makeAll(t, boxes)
			wantCommit(t, what, other, wasFiles, 2, well, err)
			for i := range was {
				was[i].files, was[i].ops = filesOf(made[i]), made[i].Ops()
			}
			// What is written into lists later is not seen on the drives, nor in the answer, nor the other way round.
			kept := slices.Clone(well)
			fillFiles(files)
			fill(l, nil)
			wantBoxes(t, what, made, was)
			if !slices.Equal(well, kept) {
				t.Errorf("%s: the answer follows what was handed in", what)
			}
			fill(well, false)
			wantBoxes(t, what, made, was)
		}
	}
}

// TestCommitSharedBytes: files may share their bytes, and drives their lists.
func TestCommitSharedBytes(t *testing.T) {
	b := []byte("shared")
	list := []api.File{{Name: "a", B: b}, {Name: "b", B: b[:3]}, {Name: "c", B: b[3:]}}
	l, _ := makeAll(t, slices.Repeat([]box{on()}, 3))
	wantCommit(t, "shared", l, alike(3, list), 3, []bool{true, true, true}, api.OK)
	fill(b, 'x')
	want(t, "turned", l[0].Turn("a", 0, 1), api.OK)
	for i, wanted := range []string{"rhared", "shared", "shared"} {
		if f := filesOf(l[i]); f["a"].b != wanted || f["b"].b != "sha" || f["c"].b != "red" {
			t.Errorf("drive %d has %s", i, shown(f))
		}
	}
}

// TestReadIsItsOwn: what Read answers shares nothing with the drives, nor with another answer, nor its copies with one another.
func TestReadIsItsOwn(t *testing.T) {
	same, _ := makeAll(t, []box{on("a", "b"), on("b"), on("a").away(), on("a")})
	made := append(same, same[0])
	l, mark := roomyDrives(t, made)
	one, _ := fan.Read(l, "a")
	two, err := fan.Read(l, "a")
	wantDrives(t, "Read", l, made, mark)
	for i := range one {
		fill(one[i].B, 'x')
		for j := range one {
			if j > i && one[j].Err == api.OK && string(one[j].B) != "a" {
				t.Errorf("copies %d and %d share their bytes", i, j)
			}
		}
	}
	fill(one, api.Copy{Err: -1})
	fill(l, nil)
	has := api.Copy{B: []byte("a")}
	wanted := []api.Copy{has, {Err: api.ErrMissing}, {Err: api.ErrOffline}, has, has}
	if err != api.OK || !slices.EqualFunc(two, wanted, func(a, b api.Copy) bool { return a.Err == b.Err && bytes.Equal(a.B, b.B) }) {
		t.Errorf("another answer: %v, %v", two, err)
	}
	wantRead(t, "asked anew", made, "a", wanted, api.OK)
}

// TestNamesIsItsOwn: so it is with Names.
func TestNamesIsItsOwn(t *testing.T) {
	for _, boxes := range [][]box{{on("b", "a", "tmp/a")}, {on("b", "a"), on("a", "tmp/a"), on()}} {
		made, was := makeAll(t, boxes)
		l, mark := roomyDrives(t, made)
		one, _ := fan.Names(l, "")
		two, err := fan.Names(l, "")
		wantDrives(t, "Names", l, made, mark)
		fill(one, "filled")
		fill(l, nil)
		if wanted := []string{"a", "b", "tmp/a"}; !slices.Equal(two, wanted) || err != api.OK {
			t.Errorf("another answer: %q, %v", two, err)
		}
		wantNames(t, "asked anew", made, "", []string{"a", "b", "tmp/a"}, api.OK)
		wantBoxes(t, "Names", made, was)
	}
}

// TestDeleteChangesNothing: what Delete, Clean and Finish are handed is as it was behind them, and its room is not read.
func TestDeleteChangesNothing(t *testing.T) {
	for _, wasNames := range [][]string{nil, {"a"}, {"a", "none", "b"}, {"a", "b c"}, numbered(128), numbered(129)} {
		for _, mark := range []string{"x", "not a name"} {
			for _, b := range []box{on("a", "x", "tmp/a", "tmp/x"), on("a").away(), on("a").broken()} {
				made, _ := makeAll(t, []box{on("a", "x"), b, on("b", "x")})
				l, spareDrive := roomyDrives(t, made)
				names := roomy(wasNames, mark)
				n, err := fan.Delete(l, names)
				other, _ := makeAll(t, []box{on("a", "x"), b, on("b", "x")})
				wantDelete(t, "without room", other, wasNames, n, err)
				fan.Clean(l, "")
				wantDrives(t, "Delete", l, made, spareDrive)
				d := b.make(t)
				err = fan.Finish(d, names)
				want(t, "without room", fan.Finish(b.make(t), wasNames), err)
				if _, there := filesOf(d)["tmp/x"]; there != (len(b.files) == 4) {
					t.Error("Finish read the room of its names")
				}
				if !slices.Equal(names, wasNames) || !slices.Equal(behind(names), slices.Repeat([]string{mark}, room)) {
					t.Error("the names were changed")
				}
			}
		}
	}
}

// TestListsThatEndEarly: lists that go on in their room are looked at as far as they go.
func TestListsThatEndEarly(t *testing.T) {
	l, _ := makeAll(t, slices.Repeat([]box{on("a")}, 20))
	files := alike(20, of(numbered(9)...))
	for i := range files {
		files[i] = files[i][:8]
	}
	wantCommit(t, "16 of 20", l[:16], files[:16], 16, slices.Repeat([]bool{true}, 16), api.OK)
	wantCommit(t, "16 of 20", l[:16], files[:17], 16, nil, api.ErrArg)
	wantCommit(t, "17 of 20", l[:17], files[:17], 16, nil, api.ErrArg)
	wantNames(t, "the others", l[16:], "", []string{"a"}, api.OK)
	names := append(numbered(128), "a")
	wantDelete(t, "128 of 129", l[:16], names[:128], 16*8, api.OK)
	wantNames(t, "128 of 129", l[:16], "", []string{"a"}, api.OK)
	l[16] = nil
	wantNames(t, "none behind the end", l[:16], "", []string{"a"}, api.OK)
}
