package erasure_test

import (
	"fmt"
	"maps"
	"math/rand"
	"slices"
	"strings"
	"testing"

	"stowage/api"
	"stowage/drive"
	"stowage/journal"
)

// bootOf is a drive's boot number, -1 if it has no boot file that is read.
func bootOf(d *drive.Drive) int {
	f, there := filesOf(d)["boot"]
	j, err := journal.Read([]byte(f.b))
	if !there || err != api.OK || f.loose || len(j.Records) > 0 {
		return -1
	}
	return j.Seq
}

// bootFile is a boot file's bytes.
func bootFile(t *testing.T, seq int) []byte {
	t.Helper()
	b, err := journal.Bytes(api.Journal{Seq: seq})
	if err != api.OK {
		t.Fatal(err)
	}
	return b
}

// wantBoots asks for the drives' boot numbers.
func wantBoots(t *testing.T, what string, l drives, wanted ...int) {
	t.Helper()
	var got []int
	for _, d := range l {
		got = append(got, bootOf(d))
	}
	if !slices.Equal(got, wanted) {
		t.Errorf("%s: boot numbers %v; want %v", what, got, wanted)
	}
}

// TestBoots: each Recover gives the drives that are there the number behind the greatest one.
func TestBoots(t *testing.T) {
	l, s := fresh(t, 3, 1)
	recover := func(what string, wanted ...int) {
		t.Helper()
		want(t, what, step(t, what, s, l, recovers(), noFuse).err, api.OK)
		wantBoots(t, what, l, wanted...)
	}
	recover("the first one", 1, 1, 1)
	recover("the second one", 2, 2, 2)
	away(l, 1)
	recover("one away", 3, 2, 3)
	back(l)
	away(l, 0, 2)
	recover("the others away", 3, 3, 3)
	back(l)
	recover("all back", 4, 4, 4)
	l[2].Full(true)
	recover("one full", 5, 5, 4)
	back(l)
	l[0].Turn("boot", 3, 1)
	l[1].Delete("boot")
	recover("turned, gone and behind", 5, 5, 5)
	for i := range l {
		raw(t, l[i], "boot", nil)
	}
	recover("no boot file is read", 1, 1, 1)
	raw(t, l[1], "boot", bootFile(t, 1<<40-2))
	recover("nearly the last number", 1<<40-1, 1<<40-1, 1<<40-1)
	l[0].Full(true)
	recover("the last number", 1<<40-1, 1<<40, 1<<40)
	was := clones(l)
	recover("behind the last number", 1<<40-1, 1<<40, 1<<40)
	wantDrives(t, "behind the last number", l, was)
	for i := range l {
		l[i].Full(true)
		l[i].Delete("boot")
	}
	recover("all full", -1, -1, -1)
}

// TestRecoverQuorum: it needs k drives that are up; with fewer nothing is done.
func TestRecoverQuorum(t *testing.T) {
	for _, size := range [][2]int{{2, 1}, {3, 1}, {3, 2}, {4, 3}, {5, 2}} {
		n, k := size[0], size[1]
		for _, gone := range choices(n) {
			l, s := fresh(t, n, k)
			must(t, s, put("a", version("x", 1), []byte("abc")))
			for _, d := range l {
				raw(t, d, "tmp/x", nil)
				raw(t, d, "s/x", nil)
			}
			was := clones(l)
			away(l, gone...)
			what := fmt.Sprintf("%d of %d, %v away", k, n, gone)
			got := step(t, what, s, l, recovers(), noFuse)
			if n-len(gone) < k {
				want(t, what, got.err, api.ErrQuorum)
				wantFiles(t, what, l, was)
				continue
			}
			want(t, what, got.err, api.OK)
			for i, d := range l {
				has := slices.Sorted(maps.Keys(filesOf(d)))
				wanted := []string{"boot", "j/a", "s/a-" + version("x", 1).Data}
				if slices.Contains(gone, i) {
					wanted = slices.Sorted(maps.Keys(filesOf(was[i])))
				}
				if !slices.Equal(has, wanted) {
					t.Errorf("%s: drive %d has %q; want %q", what, i, has, wanted)
				}
			}
		}
	}
}

// TestSweep: shard files of no record are deleted, and no others, whatever their names.
func TestSweep(t *testing.T) {
	l, s := fresh(t, 3, 1)
	must(t, s, put("a", version("x", 1), []byte("abc")), put("a", mark("m", 2), nil), put("a", version("y", 3), nil), put("a/b-c", version("x", 1), []byte("d")), put("gone", version("x", 1), nil), drop("gone", "x"))
	must(t, s, recovers())
	others := []string{"S/x", "s", "s-", "as/x", "format", "x", "jj", "j", "tm", "tmp"}
	for _, name := range others {
		raw(t, l[1], name, []byte(name))
	}
	was := clones(l)
	junk := []string{"s/", "s/x", "s/a", "s/a-", "s/a-" + version("x", 2).Data, "s/A-" + version("x", 1).Data, "s/a-" + version("x", 1).Data + "0", "s/b-" + version("x", 1).Data, "s/gone-" + version("x", 1).Data, "s/s/a-" + version("x", 1).Data, "s/~", "s/" + strings.Repeat("p", 510)}
	for i, name := range junk {
		raw(t, l[i%3], name, []byte("junk"))
		raw(t, l[(i+1)%3], name, nil)
	}
	want(t, "Recover", step(t, "sweep", s, l, recovers(), noFuse).err, api.OK)
	for _, d := range slices.Concat(l, was) {
		d.Delete("boot")
	}
	wantFiles(t, "sweep", l, was)
}

// TestSweepMany: however many there are.
func TestSweepMany(t *testing.T) {
	l, s := fresh(t, 2, 1)
	must(t, s, put("a", version("x", 1), []byte("abc")))
	for i := range 400 {
		raw(t, l[0], fmt.Sprint("s/junk", i), nil)
		raw(t, l[1], fmt.Sprint("tmp/junk", i), nil)
	}
	want(t, "Recover", step(t, "many", s, l, recovers(), noFuse).err, api.OK)
	if count(l, "") != 6 {
		t.Errorf("%d files are left", count(l, ""))
	}
}

// TestSweepByCount: what a record of the journal that counts has is kept; what only an older one tells of is not; a journal that one drive alone has counts, too.
func TestSweepByCount(t *testing.T) {
	l, s := fresh(t, 4, 2)
	must(t, s, put("a", version("x", 1), []byte("abc")), put("b", version("x", 1), []byte("abc")))
	away(l, 0)
	must(t, s, put("a", version("x", 2), []byte("de")))
	back(l)
	for i := range 3 {
		l[i].Delete("j/b")
	}
	want(t, "Recover", step(t, "by what counts", s, l, recovers(), noFuse).err, api.OK)
	if count(l, shardName(1)) != 0 || count(l, shardName(2)) != 3 || count(l, "s/b-") != 4 {
		t.Errorf("drive 0 has %s", shown(filesOf(l[0])))
	}
	// Of an object whose journals are not read by anyone no record is known.
	for _, d := range l {
		d.Turn("j/b", 5, 1)
	}
	want(t, "Recover", step(t, "not read", s, l, recovers(), noFuse).err, api.OK)
	if count(l, "s/b-") != 0 || count(l, "j/b") != 1 {
		t.Errorf("drive 3 has %s", shown(filesOf(l[3])))
	}
}

// TestClean: all that is staged goes, whatever its name, of all drives that are there.
func TestClean(t *testing.T) {
	l, s := fresh(t, 3, 1)
	must(t, s, put("a", version("x", 1), []byte("abc")), recovers())
	was := clones(l)
	b := []byte(filesOf(l[0])["j/a"].b)
	for i, name := range []string{"tmp/", "tmp/j/", "tmp/j", "tmp/j/" + strings.Repeat("p", 401), "tmp/x", "tmp/tmp/j/a", "tmp/s/a-1", "tmp/boot", "tmp/j/none"} {
		raw(t, l[i%3], name, b)
		if i != 8 {
			raw(t, l[(i+1)%3], name, b)
		}
		l[i%3].Write(name, b)
	}
	want(t, "Recover", step(t, "clean", s, l, recovers(), noFuse).err, api.OK)
	for _, d := range slices.Concat(l, was) {
		d.Delete("boot")
	}
	wantFiles(t, "clean", l, was)
}

// stagedOn are drives on which the first so many have a Put's files staged: those of an object that had a version already, of another ID.
func stagedOn(t *testing.T, n, k, staged int) drives {
	t.Helper()
	l, s := fresh(t, n, k)
	must(t, s, put("a", version("x", 1), []byte("abc")), recovers())
	drive.Fuse(l, 4*staged)
	_, err := s.Put("a", version("y", 2), []byte("de"))
	want(t, "the fuse", err, api.ErrBroken)
	crash(l, nil)
	return l
}

// TestFinish: what is staged on k + 1 drives is brought to an end there; on fewer it is let go of.
func TestFinish(t *testing.T) {
	for _, size := range [][2]int{{2, 1}, {3, 1}, {3, 2}, {4, 2}, {6, 2}} {
		n, k := size[0], size[1]
		for staged := range n + 1 {
			for _, path := range []string{"tmp", "also under the name"} {
				l := stagedOn(t, n, k, staged)
				finished := 0
				if path != "tmp" && staged > 0 {
					// A drive that has finished already has it under its name.
					want(t, "by hand", l[0].Rename("tmp/"+shardName(2), shardName(2)), api.OK)
					want(t, "by hand", l[0].Rename("tmp/j/a", "j/a"), api.OK)
					finished = 1
				}
				s := set(t, l, k)
				what := fmt.Sprintf("%d of %d, staged on %d, %s", k, n, staged, path)
				want(t, what, step(t, what, s, l, recovers(), noFuse).err, api.OK)
				wanted, kept := 0, finished
				if staged >= k+1 && staged > finished {
					wanted, kept = staged, staged
				} else if finished == 1 {
					// Its journal is the newest one that there is: that is no such set as has its write quorum.
					wanted = finished
				}
				if got := count(l, shardName(2)); got != kept || count(l, "tmp/") != 0 {
					t.Errorf("%s: %d shard files of the new version; want %d", what, got, kept)
				}
				seq := 0
				for _, d := range l {
					if j, _ := journal.Read([]byte(filesOf(d)["j/a"].b)); j.Seq == 2 {
						seq++
					}
				}
				if seq != wanted {
					t.Errorf("%s: %d drives have the new journal; want %d", what, seq, wanted)
				}
			}
		}
	}
}

// TestFinishBoots: drives of an older boot number do not count, and what they have staged is let go of; their own bytes are not finished, either.
func TestFinishBoots(t *testing.T) {
	for _, older := range choices(4) {
		for _, boot := range []int{0, 1, 5} {
			l := stagedOn(t, 4, 1, 4)
			for i, d := range l {
				switch {
				case !slices.Contains(older, i):
					raw(t, d, "boot", bootFile(t, 6))
				case boot == 0:
					d.Turn("boot", 3, 1)
				default:
					raw(t, d, "boot", bootFile(t, boot))
				}
			}
			s := set(t, l, 1)
			what := fmt.Sprintf("%v of boot %d", older, boot)
			want(t, what, step(t, what, s, l, recovers(), noFuse).err, api.OK)
			wanted := 4 - len(older)
			if wanted < 2 {
				wanted = 0
			}
			if len(older) == 4 {
				wanted = 4
			}
			if got := count(l, shardName(2)); got != wanted || count(l, "tmp/") != 0 {
				t.Errorf("%s: %d drives finished; want %d", what, got, wanted)
			}
		}
	}
}

// TestBackLater: what drives have staged that were away when the set was put right never comes to an end, however many they are.
func TestBackLater(t *testing.T) {
	l := stagedOn(t, 4, 1, 2)
	away(l, 0, 1)
	s := set(t, l, 1)
	want(t, "Recover", step(t, "two away", s, l, recovers(), noFuse).err, api.OK)
	must(t, s, put("a", version("z", 3), []byte("acknowledged")))
	back(l)
	reads(t, "all back", s, "a", "", []byte("acknowledged"))
	want(t, "Recover", step(t, "all back", s, l, recovers(), noFuse).err, api.OK)
	reads(t, "recovered", s, "a", "", []byte("acknowledged"))
	reads(t, "recovered", s, "a", "x", []byte("abc"))
	_, _, err := s.Get("a", "y")
	want(t, "what was let go of", err, api.ErrMissing)
	if count(l, "tmp/") != 0 || count(l, "s/") != 8 {
		t.Errorf("drive 0 has %s", shown(filesOf(l[0])))
	}
}

// TestFinishTurned: a staged journal with a byte turned is none, and is no other drive's.
func TestFinishTurned(t *testing.T) {
	for turned := range 5 {
		l := stagedOn(t, 4, 2, 4)
		for i := range turned {
			l[i].Turn("tmp/j/a", 4+i, 2)
		}
		s := set(t, l, 2)
		what := fmt.Sprint(turned, " turned")
		want(t, what, step(t, what, s, l, recovers(), noFuse).err, api.OK)
		wanted := 4 - turned
		if wanted < 3 {
			wanted = 0
		}
		if got := count(l, shardName(2)); got != wanted {
			t.Errorf("%s: %d drives finished; want %d", what, got, wanted)
		}
		// Alike bytes that are no journal are none on all drives.
		l = stagedOn(t, 4, 2, 4)
		for _, d := range l {
			d.Turn("tmp/j/a", 6, 2)
		}
		s = set(t, l, 2)
		want(t, what, step(t, what, s, l, recovers(), noFuse).err, api.OK)
		reads(t, what, s, "a", "", []byte("abc"))
	}
}

// pair is what a drive has of an object's journals, by their Seq, 0 being none: under its name, and staged.
type pair struct{ done, staged int }

// inTurn are journals of Seq 1 on, as bytes, each of which has one version more than the one ahead of it.
func inTurn(t *testing.T, last, k, m int) [][]byte {
	t.Helper()
	all := [][]byte{nil}
	var j api.Journal
	for seq := 1; seq <= last; seq++ {
		var err api.Errno
		if j, err = journal.Add(j, whole(version(fmt.Sprint("v", seq), seq), nil, k, m)); err != api.OK {
			t.Fatal(err)
		}
		b, _ := journal.Bytes(j)
		all = append(all, b)
	}
	return all
}

// paired are drives that have these journals, each with the shard files of all its versions; of a staged one the last version's are staged, too.
func paired(t *testing.T, k int, pairs ...pair) drives {
	t.Helper()
	bytes := inTurn(t, 3, k, len(pairs)-k)
	l := made(t, len(pairs), 1<<16)
	for i, p := range pairs {
		for n := 1; n <= p.done; n++ {
			raw(t, l[i], shardName(n), []byte{1})
		}
		if p.done > 0 {
			raw(t, l[i], "j/a", bytes[p.done])
		}
		if p.staged > 0 {
			raw(t, l[i], "tmp/"+shardName(p.staged), []byte{2})
			raw(t, l[i], "tmp/j/a", bytes[p.staged])
		}
	}
	return l
}

// pairedNow is what each drive has of the object behind Recover: its journal's Seq, and of which versions it has shard files.
func pairedNow(l drives) []string {
	var all []string
	for _, d := range l {
		files := filesOf(d)
		j, _ := journal.Read([]byte(files["j/a"].b))
		line := fmt.Sprint(j.Seq, ":")
		for n := 1; n <= 3; n++ {
			if _, there := files[shardName(n)]; there {
				line += fmt.Sprint(" ", n)
			}
		}
		all = append(all, line)
	}
	return all
}

// TestFinishInTurn: where unlike journals of one path are staged, each is finished, or is not, by what drives have when its turn comes: what was finished ahead of it may have taken it from drives, or given it its name there.
func TestFinishInTurn(t *testing.T) {
	for _, x := range []struct {
		what   string
		k      int
		pairs  []pair
		wanted []string
	}{
		{"taken from the first drive", 1, []pair{{1, 2}, {0, 2}, {0, 1}}, []string{"2: 1 2", "2: 2", "0:"}},
		{"the other way round", 1, []pair{{0, 1}, {0, 2}, {1, 2}}, []string{"1: 1", "2: 2", "2: 1 2"}},
		{"taken, but enough are left", 1, []pair{{1, 2}, {0, 2}, {0, 1}, {0, 1}}, []string{"2: 1 2", "2: 2", "1: 1", "1: 1"}},
		{"taken from one of three", 2, []pair{{1, 2}, {0, 2}, {0, 2}, {0, 1}, {0, 1}}, []string{"2: 1 2", "2: 2", "2: 2", "0:", "0:"}},
		{"taken from all but one, by two", 1, []pair{{1, 2}, {0, 2}, {1, 3}, {0, 3}, {0, 1}}, []string{"2: 1 2", "2: 2", "3: 1 3", "3: 3", "0:"}},
		{"named by another's finishing", 1, []pair{{0, 1}, {1, 2}, {2, 0}, {2, 0}}, []string{"1: 1", "2: 1", "2: 1 2", "2: 1 2"}},
		{"named, and staged on a later drive", 1, []pair{{0, 1}, {1, 2}, {2, 0}, {1, 0}, {0, 2}}, []string{"1: 1", "2: 1 2", "2: 1 2", "1: 1", "2: 2"}},
		{"named, and so too few of the older one", 1, []pair{{1, 2}, {2, 3}, {0, 2}, {3, 0}, {0, 1}}, []string{"2: 1 2", "3: 1 2", "2: 2", "3: 1 2 3", "0:"}},
	} {
		l := paired(t, x.k, x.pairs...)
		want(t, x.what, step(t, x.what, set(t, l, x.k), l, recovers(), noFuse).err, api.OK)
		if got := pairedNow(l); !slices.Equal(got, x.wanted) || count(l, "tmp/") != 0 {
			t.Errorf("%s: %q, %d staged; want %q", x.what, got, count(l, "tmp/"), x.wanted)
		}
	}
}

// TestFinishTaken: a mark that was stopped in the midst, and another one on top of it: only that one has two drives when both were looked at.
func TestFinishTaken(t *testing.T) {
	l, s := fresh(t, 3, 1)
	for i, c := range []call{put("a", mark("null", 1), nil), put("a", mark("x", 2), nil)} {
		want(t, "stopped", step(t, "stopped", s, l, c, []int{7, 4}[i]).err, api.ErrBroken)
		crash(l, nil)
	}
	want(t, "Recover", step(t, "taken", s, l, recovers(), noFuse).err, api.OK)
	if got := pairedNow(l); !slices.Equal(got, []string{"2:", "2:", "0:"}) || len(filesOf(l[2])) != 1 {
		t.Errorf("%q; the third drive has %s", got, shown(filesOf(l[2])))
	}
	wantBoots(t, "taken", l, 1, 1, 1)
}

// TestFinishNamed: two drives are mended of unlike journals, stopped in the midst: what the second one has staged has its name by the finishing of the first one's, and is looked at no more.
func TestFinishNamed(t *testing.T) {
	l, s := fresh(t, 4, 1)
	for i, c := range []call{put("a", version("null", 1), []byte("abc")), put("a", version("x", 2), []byte("de"))} {
		for at := range i + 1 {
			away(l, at)
		}
		must(t, s, c)
		l[i].Offline(false)
		want(t, "stopped", step(t, "stopped", s, l, get("a", ""), 4).err, api.ErrBroken)
		crash(l, nil)
	}
	back(l)
	want(t, "Recover", step(t, "named", s, l, recovers(), noFuse).err, api.OK)
	if got := pairedNow(l); !slices.Equal(got, []string{"1: 1", "2: 1", "2: 1 2", "2: 1 2"}) || count(l, "tmp/") != 0 {
		t.Errorf("%q, %d staged", got, count(l, "tmp/"))
	}
	reads(t, "named", s, "a", "", []byte("de"))
	reads(t, "named", s, "a", "null", []byte("abc"))
}

// TestFinishEachPair: all that three drives may have of three journals, under both names.
func TestFinishEachPair(t *testing.T) {
	for bits := range 1 << 12 {
		var pairs []pair
		for i := range 3 {
			pairs = append(pairs, pair{bits >> (4 * i) & 3, bits >> (4*i + 2) & 3})
		}
		for k := 1; k <= 2; k++ {
			what := fmt.Sprint(k, " of 3, journals ", pairs)
			_, got := hold(t, what, paired(t, k, pairs...), k, recovers(), noFuse)
			want(t, what, got.err, api.OK)
		}
	}
}

// TestRecoverDrawn: files of all kinds drawn by chance on drives of all kinds: each Recover is held against the model, wherever a fuse stops it.
func TestRecoverDrawn(t *testing.T) {
	r := rand.New(rand.NewSource(1208))
	for i := range 1500 {
		n := 2 + r.Intn(4)
		k := 1 + r.Intn(n-1)
		begun := drawnDrives(t, r, n, k)
		fuse := noFuse
		if r.Intn(2) == 0 {
			fuse = r.Intn(12)
		}
		l, _ := hold(t, fmt.Sprint("drawn ", i), begun, k, recovers(), fuse)
		crash(l, []bool{r.Intn(2) == 0, r.Intn(2) == 0})
		hold(t, fmt.Sprint("drawn ", i, " again"), l, k, recovers(), noFuse)
	}
}

// drawnDrives are drives with journals of a few kinds, staged and not, shard files, boot files, by chance.
func drawnDrives(t *testing.T, r *rand.Rand, n, k int) drives {
	t.Helper()
	var journals [][]byte
	for seq := 1; seq <= 3; seq++ {
		j := api.Journal{Seq: seq}
		for at := range seq {
			j.Records = append(j.Records, whole(version(fmt.Sprint("v", at), at), nil, k, n-k))
		}
		b, _ := journal.Bytes(j)
		other, _ := journal.Bytes(api.Journal{Seq: seq, Records: []api.Record{mark("m", 1), whole(version("o", 1), nil, k, n-k)}})
		journals = append(journals, b, other)
	}
	l := made(t, n, 1<<20)
	most := 1 + r.Intn(len(journals))
	for _, d := range l {
		for _, path := range []string{"a", "b"} {
			for _, name := range []string{"j/" + path, "tmp/j/" + path} {
				if r.Intn(4) > 0 {
					raw(t, d, name, journals[r.Intn(most)])
				}
			}
			for at := range 4 {
				for _, ahead := range []string{"", "tmp/"} {
					if r.Intn(2) == 0 {
						raw(t, d, ahead+"s/"+path+"-"+version("", at).Data, []byte(fmt.Sprint(ahead, path, at)))
					}
				}
			}
		}
		if r.Intn(4) == 0 {
			d.Turn("tmp/j/a", r.Intn(40), 1)
		}
		if r.Intn(3) > 0 {
			raw(t, d, "boot", bootFile(t, 1+r.Intn(3)/2))
		}
		if r.Intn(5) == 0 {
			d.Write("tmp/j/"+[]string{"", " c", "c", strings.Repeat("c", 401)}[r.Intn(4)], journals[0])
		}
		d.Full(r.Intn(8) == 0)
		d.Offline(r.Intn(8) == 0)
	}
	return l
}
