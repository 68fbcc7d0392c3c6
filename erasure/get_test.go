package erasure_test

import (
	"fmt"
	"math"
	"slices"
	"strings"
	"testing"

	"stowage/api"
	"stowage/journal"
)

// several is an object with versions and marks, the newest one last, of sets of 4 drives and k 2.
func several() []call {
	return []call{
		put("a", version("v1", 1), text(3, 1)), put("a", mark("m2", 2), nil), put("a", version("v3", 3), nil),
		put("a", version("v4", 4), text(700, 4)), put("b", version("v1", 1), text(10, 9)), put("a", mark("m5", 5), nil), put("a", version("v6", 6), text(1, 6)),
	}
}

// texts are the bytes of that object's versions.
func texts() map[string][]byte {
	return map[string][]byte{"v1": text(3, 1), "v3": nil, "v4": text(700, 4), "v6": text(1, 6)}
}

// TestGet: the newest one, each by its ID, and what there is not.
func TestGet(t *testing.T) {
	l, s := fresh(t, 4, 2)
	must(t, s, several()...)
	was := clones(l)
	for id, b := range texts() {
		got := step(t, "by its ID", s, l, get("a", id), noFuse)
		n := int(id[1] - '0')
		if !sameAnswer(got, answer{r: whole(version(id, n), b, 2, 2), b: b}) {
			t.Errorf("Get(a, %s): %v", id, got)
		}
		got = step(t, "all of it", s, l, part("a", id, 0, len(b)), noFuse)
		if !sameAnswer(got, answer{r: whole(version(id, n), b, 2, 2), b: b}) {
			t.Errorf("Part(a, %s): %v", id, got)
		}
	}
	reads(t, "the newest one", s, "a", "", text(1, 6))
	for _, id := range []string{"m2", "m5"} {
		wanted := answer{r: mark(id, int(id[1]-'0')), err: api.ErrMark}
		for _, c := range []call{get("a", id), part("a", id, 0, 0), part("a", id, 3, -1)} {
			if got := step(t, "a mark", s, l, c, noFuse); !sameAnswer(got, wanted) {
				t.Errorf("%v: %v", c, got)
			}
		}
	}
	for _, id := range []string{"v2", "v", "v11", "V1", " ", "null", "v1 ", "\x00", strings.Repeat("v", 1000)} {
		for _, c := range []call{get("a", id), part("a", id, 0, 0), get("none", id), part("none", id, 0, 0)} {
			if got := step(t, "no such version", s, l, c, noFuse); !sameAnswer(got, answer{err: api.ErrMissing}) {
				t.Errorf("%v: %v", c, got)
			}
		}
	}
	for _, c := range []call{get("none", ""), part("none", "", 0, 0), get("a/", ""), get("A", "v1")} {
		if got := step(t, "no such object", s, l, c, noFuse); !sameAnswer(got, answer{err: api.ErrMissing}) {
			t.Errorf("%v: %v", c, got)
		}
	}
	wantDrives(t, "all is well: nothing is changed", l, was)
	must(t, s, put("a", mark("m7", 7), nil))
	for _, c := range []call{get("a", ""), part("a", "", 0, 0)} {
		if got := step(t, "the newest one is a mark", s, l, c, noFuse); !sameAnswer(got, answer{r: mark("m7", 7), err: api.ErrMark}) {
			t.Errorf("%v: %v", c, got)
		}
	}
}

// TestGetNoRecords: a journal without records tells of no version.
func TestGetNoRecords(t *testing.T) {
	l, s := fresh(t, 3, 2)
	must(t, s, put("a", version("x", 1), []byte("abc")), drop("a", "x"))
	for _, c := range []call{get("a", ""), get("a", "x"), part("a", "", 0, 0), part("a", "x", 5, 1), drop("a", "x"), drop("a", "")} {
		if got := step(t, "no records", s, l, c, noFuse); !sameAnswer(got, answer{err: api.ErrMissing}) {
			t.Errorf("%v: %v", c, got)
		}
	}
	if c, err := s.Look("a"); err != api.OK || !c.Found || c.J.Seq != 2 || len(c.J.Records) != 0 {
		t.Errorf("Look: %v, %v", c, err)
	}
}

// TestGetAway: with each choice of drives that are away: k suffice, and nothing of what they have is changed.
func TestGetAway(t *testing.T) {
	for _, size := range [][2]int{{2, 1}, {3, 1}, {3, 2}, {5, 2}, {5, 4}, {6, 3}} {
		n, k := size[0], size[1]
		length := 1500
		if n == 3 {
			length = 65536
		}
		for _, gone := range choices(n) {
			l, s := fresh(t, n, k)
			must(t, s, put("a", version("x", 1), text(999, 1)), put("a", version("y", 2), text(length, 2)), put("a", mark("m", 3), nil))
			was := clones(l)
			away(l, gone...)
			what := fmt.Sprintf("%d of %d, %v away", k, n, gone)
			for _, c := range []call{get("a", "x"), get("a", "y"), part("a", "y", 1000, length), get("a", ""), get("a", "z")} {
				got := step(t, what, s, l, c, noFuse)
				wanted := map[string]api.Errno{"": api.ErrMark, "z": api.ErrMissing}[c.id]
				if n-len(gone) < k {
					wanted = api.ErrQuorum
				}
				want(t, what+": "+c.String(), got.err, wanted)
			}
			wantFiles(t, what, l, was)
		}
	}
}

// TestPartBounds: from and to, as shard.Part bounds them.
func TestPartBounds(t *testing.T) {
	l, s := fresh(t, 3, 2)
	sizes := []int{0, 1, 2, 5, 511, 512, 513, 3000}
	for i, n := range sizes {
		must(t, s, put("a", version(fmt.Sprint("v", n), i), text(n, n)))
	}
	for _, n := range sizes {
		ends := []int{math.MinInt, -1 << 32, -2, -1, 0, 1, 2, n / 2, n - 2, n - 1, n, n + 1, n + 2, 1<<32 + n, math.MaxInt - 1, math.MaxInt}
		for _, from := range ends {
			for _, to := range ends {
				got := step(t, "bounds", s, l, part("a", fmt.Sprint("v", n), from, to), noFuse)
				if from < 0 || to < from || to > n {
					if !sameAnswer(got, answer{err: api.ErrRange}) {
						t.Errorf("of %d bytes %d to %d: %v", n, from, to, got)
					}
					continue
				}
				if got.err != api.OK || !slices.Equal(got.b, text(n, n)[from:to]) || got.r.Size != n {
					t.Errorf("of %d bytes %d to %d: %v", n, from, to, got)
				}
			}
		}
	}
}

// spoilers are what may become of a file on a drive.
func spoilers(t *testing.T) map[string]func(l drives, i int, name string) {
	cut := func(l drives, i int, name string, n int) {
		b := []byte(filesOf(l[i])[name].b)
		raw(t, l[i], name, b[:max(0, len(b)-n)])
	}
	return map[string]func(l drives, i int, name string){
		"gone":        func(l drives, i int, name string) { l[i].Delete(name) },
		"turned":      func(l drives, i int, name string) { l[i].Turn(name, 0, 128) },
		"turned last": func(l drives, i int, name string) { l[i].Turn(name, len(filesOf(l[i])[name].b)-1, 1) },
		"cut":         func(l drives, i int, name string) { cut(l, i, name, 1) },
		"empty":       func(l drives, i int, name string) { raw(t, l[i], name, nil) },
		"longer": func(l drives, i int, name string) {
			raw(t, l[i], name, append([]byte(filesOf(l[i])[name].b), 0))
		},
		"other": func(l drives, i int, name string) { raw(t, l[i], name, []byte("other bytes")) },
	}
}

// TestGetMends: whatever became of shard files and journals, of each choice of drives: what is read is put right on all of them; if fewer than k are sound, nothing is done.
func TestGetMends(t *testing.T) {
	for _, size := range [][2]int{{2, 1}, {3, 2}, {4, 2}} {
		n, k := size[0], size[1]
		begun, s := fresh(t, n, k)
		must(t, s, put("a", version("x", 1), text(700, 1)), put("a", version("y", 2), text(300, 2)))
		for how, spoil := range spoilers(t) {
			for _, bad := range choices(n) {
				for _, what := range []string{"shards", "journals", "both"} {
					l := clones(begun)
					for _, i := range bad {
						if what != "journals" {
							spoil(l, i, "s/a-"+version("y", 2).Data)
						}
						if what != "shards" {
							spoil(l, i, "j/a")
						}
					}
					was := clones(l)
					s := set(t, l, k)
					line := fmt.Sprintf("%d of %d, %s %s on %v", k, n, what, how, bad)
					c := get("a", "y")
					if len(bad)%2 == 1 {
						c = part("a", "y", 7, 290)
					}
					got := step(t, line, s, l, c, noFuse)
					switch {
					case what != "shards" && len(bad) == n:
						want(t, line, got.err, api.ErrMissing)
						wantDrives(t, line, l, was)
					case what != "journals" && len(bad) > n-k:
						want(t, line, got.err, api.ErrQuorum)
						wantDrives(t, line, l, was)
					default:
						want(t, line, got.err, api.OK)
						wantFiles(t, line, l, begun)
					}
				}
			}
		}
	}
}

// TestEachByteTurned: of each file of a version, whichever byte is turned is put right.
func TestEachByteTurned(t *testing.T) {
	begun, s := fresh(t, 3, 2)
	must(t, s, put("a", version("x", 1), text(530, 1)))
	for i := range begun {
		for name, f := range filesOf(begun[i]) {
			for at := range f.b {
				l := clones(begun)
				l[i].Turn(name, at, 1<<(at%8))
				s := set(t, l, 2)
				reads(t, fmt.Sprintf("byte %d of %s on drive %d", at, name, i), s, "a", "", text(530, 1))
				wantFiles(t, fmt.Sprintf("byte %d of %s on drive %d", at, name, i), l, begun)
			}
		}
	}
}

// TestGetMendsThatVersion: other versions' files are left as they are; the journal comes to all drives that lack it.
func TestGetMendsThatVersion(t *testing.T) {
	l, s := fresh(t, 4, 2)
	must(t, s, several()...)
	for id, n := range map[string]int{"v1": 1, "v4": 4, "v6": 6} {
		l[0].Delete("s/a-" + version(id, n).Data)
		l[3].Turn("s/a-"+version(id, n).Data, 0, 1)
	}
	l[1].Delete("j/a")
	got := step(t, "one of several", s, l, get("a", "v4"), noFuse)
	want(t, "one of several", got.err, api.OK)
	if count(l, "s/a-"+version("v4", 4).Data) != 4 || count(l[:1], "s/a-") != 2 || count(l, "j/a") != 4 {
		t.Errorf("what is mended: %s", shown(filesOf(l[0])))
	}
	if n, err := s.Heal("a"); n != 4 || err != api.OK {
		t.Errorf("Heal of the others: %d, %v", n, err)
	}
}

// TestGetOlder: drives that were away for writes are brought up to what counts.
func TestGetOlder(t *testing.T) {
	l, s := fresh(t, 5, 2)
	must(t, s, put("a", version("x", 1), text(100, 1)))
	away(l, 3, 4)
	must(t, s, put("a", version("y", 2), text(200, 2)), put("a", version("x", 3), text(300, 3)))
	back(l)
	got := step(t, "two are behind", s, l, get("a", ""), noFuse)
	want(t, "two are behind", got.err, api.OK)
	for i, d := range l {
		if j, err := journal.Read([]byte(filesOf(d)["j/a"].b)); err != api.OK || j.Seq != 3 {
			t.Errorf("drive %d: Seq %d, %v", i, j.Seq, err)
		}
	}
	if count(l, "s/a-"+version("x", 3).Data) != 5 || count(l, "s/a-"+version("y", 2).Data) != 3 {
		t.Error("not just the version that was read is mended")
	}
}

// TestGetNoRoom: drives that can't take what they lack do not stop a read; what fits is laid by the next one.
func TestGetNoRoom(t *testing.T) {
	for _, some := range choices(3) {
		l, s := fresh(t, 3, 1)
		must(t, s, put("a", version("x", 1), text(999, 1)))
		for i := range 2 {
			l[i].Delete("s/a-" + version("x", 1).Data)
			l[i].Delete("j/a")
		}
		for _, i := range some {
			l[i].Full(true)
		}
		got := step(t, "no room", s, l, get("a", "x"), noFuse)
		want(t, "no room", got.err, api.OK)
		for i := range 2 {
			if wanted := 2; slices.Contains(some, i) != (count(l[i:i+1], "") == 0) || !slices.Contains(some, i) && count(l[i:i+1], "") != wanted {
				t.Errorf("%v full: drive %d has %s", some, i, shown(filesOf(l[i])))
			}
		}
		back(l)
		reads(t, "room again", s, "a", "x", text(999, 1))
		if count(l, "") != 6 {
			t.Errorf("%v full: %d files", some, count(l, ""))
		}
	}
}

// TestGetUnlike: shard files that are sound, but of other bytes, are told; records of other counts of shards than the set's are refused.
func TestGetUnlike(t *testing.T) {
	l, s := fresh(t, 3, 2)
	must(t, s, put("a", version("x", 1), []byte("abc")), put("b", version("x", 1), []byte("xyz")))
	name := "-" + version("x", 1).Data
	for i := range l {
		raw(t, l[i], "s/a"+name, []byte(filesOf(l[i])["s/b"+name].b))
	}
	was := clones(l)
	for _, c := range []call{get("a", ""), part("a", "x", 0, 1)} {
		if got := step(t, "another one's shards", s, l, c, noFuse); !sameAnswer(got, answer{err: api.ErrDigest}) {
			t.Errorf("%v: %v", c, got)
		}
	}
	wantDrives(t, "another one's shards", l, was)
	wide := set(t, append(made(t, 1, 1<<20), l...), 2)
	if _, _, err := wide.Get("b", "x"); err != api.ErrArg {
		t.Errorf("a record of 3 drives on 4: %v", err)
	}
}

// TestGetStranger: on a drive that has another version's journal of the same Seq, most drives' one counts, and comes there.
func TestGetStranger(t *testing.T) {
	l, s := fresh(t, 3, 2)
	other, s2 := fresh(t, 3, 2)
	must(t, s, put("a", version("x", 1), []byte("abc")))
	must(t, s2, put("a", version("y", 2), []byte("de")))
	raw(t, l[0], "j/a", []byte(filesOf(other[0])["j/a"].b))
	l[0].Delete("s/a-" + version("x", 1).Data)
	reads(t, "a stranger", s, "a", "", []byte("abc"))
	if n, err := s.Heal("a"); n != 0 || err != api.OK || count(l, "") != 6 {
		t.Errorf("Heal: %d, %v; %d files", n, err, count(l, ""))
	}
}
