package erasure_test

import (
	"fmt"
	"math/rand"
	"slices"
	"testing"

	"stowage/api"
)

// TestDrop: each version of several: it alone is gone, with its shard files.
func TestDrop(t *testing.T) {
	for _, id := range []string{"v1", "m2", "v3", "v4", "m5", "v6"} {
		l, s := fresh(t, 4, 2)
		must(t, s, several()...)
		was, _ := s.Look("a")
		gone, _ := of(was.J, id)
		got := step(t, id, s, l, drop("a", id), noFuse)
		if !sameAnswer(got, answer{r: gone}) {
			t.Errorf("Drop(a, %s): %v; want %v", id, got, gone)
		}
		left := slices.DeleteFunc(was.J.Records, func(r api.Record) bool { return r.ID == id })
		other, _ := s.Look("b")
		bytesOf := map[string][]byte{}
		for id, b := range texts() {
			bytesOf[version(id, int(id[1]-'0')).Data] = b
		}
		byPath := map[string]api.Journal{"a": {Seq: 7, Records: left}}
		for i := range l {
			// The other object's data name is v1's: its files are left out of what is compared.
			l[i].Delete("j/b")
			l[i].Delete("s/b-" + other.J.Records[0].Data)
		}
		wantLaid(t, "without "+id, l, byPath, bytesOf)
		if got := step(t, "gone", s, l, drop("a", id), noFuse); !sameAnswer(got, answer{err: api.ErrMissing}) {
			t.Errorf("Drop(a, %s) again: %v", id, got)
		}
		_, _, err := s.Get("a", id)
		want(t, "Get of what is gone", err, api.ErrMissing)
	}
}

// TestDropAll: all versions, one by one, in any order; the last one leaves a journal without records, to which one may be added.
func TestDropAll(t *testing.T) {
	r := rand.New(rand.NewSource(12))
	for range 20 {
		l, s := fresh(t, 4, 2)
		must(t, s, several()...)
		ids := []string{"v1", "m2", "v3", "v4", "m5", "v6"}
		r.Shuffle(len(ids), func(i, j int) { ids[i], ids[j] = ids[j], ids[i] })
		for i, id := range ids {
			if got := step(t, fmt.Sprint(ids), s, l, drop("a", id), noFuse); got.err != api.OK {
				t.Errorf("%v: %v", ids, got)
			}
			for _, left := range ids[i+1:] {
				if b, is := texts()[left]; is {
					reads(t, fmt.Sprint(ids), s, "a", left, b)
				}
			}
		}
		if count(l, "s/a-") != 0 || count(l, "s/b-") != 4 || count(l, "j/a") != 4 || count(l, "tmp/") != 0 {
			t.Errorf("%v: %s", ids, shown(filesOf(l[0])))
		}
		if c, _ := s.Look("a"); c.J.Seq != 12 || !c.Found || len(c.J.Records) != 0 {
			t.Errorf("%v: Look: %v", ids, c)
		}
		must(t, s, put("a", version("v1", 1), []byte("anew")))
		reads(t, "anew", s, "a", "", []byte("anew"))
	}
}

// TestDropNone: what there is not.
func TestDropNone(t *testing.T) {
	l, s := fresh(t, 4, 2)
	must(t, s, several()...)
	was := clones(l)
	for _, c := range []call{drop("a", ""), drop("a", "v2"), drop("a", "A b"), drop("none", "v1"), drop("none", ""), drop("b", "v6")} {
		if got := step(t, "none", s, l, c, noFuse); !sameAnswer(got, answer{err: api.ErrMissing}) {
			t.Errorf("%v: %v", c, got)
		}
	}
	wantDrives(t, "none", l, was)
}

// TestDropQuorum: it is done with k + 1 drives that can be written, and with fewer it is not.
func TestDropQuorum(t *testing.T) {
	begin := []call{put("a", version("x", 1), []byte("abc")), put("a", mark("m", 2), nil), put("a", version("y", 2), []byte("de"))}
	for _, size := range [][2]int{{2, 1}, {3, 1}, {3, 2}, {4, 2}, {5, 2}} {
		for _, id := range []string{"x", "m", "y"} {
			holdUnable(t, size[0], size[1], begin, drop("a", id))
		}
	}
}

// TestDropAway: a version that was dropped while drives were away is gone when they are back.
func TestDropAway(t *testing.T) {
	for _, gone := range choices(4) {
		if len(gone) > 1 {
			continue
		}
		l, s := fresh(t, 4, 2)
		must(t, s, put("a", version("x", 1), []byte("abc")), put("a", version("y", 2), []byte("de")))
		away(l, gone...)
		must(t, s, drop("a", "x"))
		back(l)
		_, _, err := s.Get("a", "x")
		want(t, "dropped", err, api.ErrMissing)
		reads(t, "the other one", s, "a", "", []byte("de"))
		must(t, s, recovers())
		if count(l, "s/a-") != 4 || count(l, "j/a") != 4 {
			t.Errorf("%v were away: %d shard files", gone, count(l, "s/a-"))
		}
	}
}
