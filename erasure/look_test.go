package erasure_test

import (
	"fmt"
	"slices"
	"testing"

	"stowage/api"
	"stowage/journal"
)

// TestLookNone: of a path that there is not, nothing is found, whoever answers.
func TestLookNone(t *testing.T) {
	l, s := fresh(t, 4, 2)
	must(t, s, put("other", version("x", 1), []byte("abc")))
	for _, gone := range choices(4) {
		back(l)
		away(l, gone...)
		got := step(t, "no such path", s, l, look("a"), noFuse)
		switch {
		case 4-len(gone) < 2 && !sameAnswer(got, answer{err: api.ErrQuorum}):
			t.Errorf("%v away: %v", gone, got)
		case 4-len(gone) >= 2 && !sameAnswer(got, answer{c: api.Choice{Has: make([]bool, 4), Answers: 4 - len(gone)}}):
			t.Errorf("%v away: %v", gone, got)
		}
	}
}

// TestLook: what counts of an object, with each choice of drives that are away.
func TestLook(t *testing.T) {
	for _, size := range [][2]int{{2, 1}, {3, 1}, {3, 2}, {5, 3}, {6, 1}} {
		n, k := size[0], size[1]
		l, s := fresh(t, n, k)
		must(t, s, put("a", version("x", 1), []byte("abc")), put("a", mark("y", 2), nil), put("a", version("z", 3), nil))
		for _, gone := range choices(n) {
			back(l)
			away(l, gone...)
			what := fmt.Sprintf("%d of %d, %v away", k, n, gone)
			got := step(t, what, s, l, look("a"), noFuse)
			if n-len(gone) < k {
				want(t, what, got.err, api.ErrQuorum)
				continue
			}
			var ids []string
			for _, r := range got.c.J.Records {
				ids = append(ids, r.ID)
			}
			if got.err != api.OK || !got.c.Found || got.c.J.Seq != 3 || !slices.Equal(ids, []string{"z", "y", "x"}) || got.c.Votes != n-len(gone) || got.c.Answers != n-len(gone) {
				t.Errorf("%s: %v", what, got)
			}
			if j, err := journal.Read(got.c.B); err != api.OK || !journal.Same(j, got.c.J) {
				t.Errorf("%s: the bytes are not the journal's: %v", what, err)
			}
		}
	}
}

// TestLookUnlike: journals that are older, turned or gone, on each choice of drives: the newest one that some drive has counts.
func TestLookUnlike(t *testing.T) {
	l, s := fresh(t, 4, 2)
	must(t, s, put("a", version("x", 1), []byte("abc")))
	older, _ := l[0].Read("j/a")
	must(t, s, put("a", version("y", 2), []byte("de")))
	spoil := map[string]func(i int, on []byte){
		"older":   func(i int, on []byte) { raw(t, l[i], "j/a", older) },
		"turned":  func(i int, on []byte) { l[i].Turn("j/a", 5+i, 1) },
		"gone":    func(i int, on []byte) { l[i].Delete("j/a") },
		"cut":     func(i int, on []byte) { raw(t, l[i], "j/a", on[:len(on)-1]) },
		"nothing": func(i int, on []byte) { raw(t, l[i], "j/a", nil) },
	}
	newer, _ := l[0].Read("j/a")
	for what, do := range spoil {
		for _, spoiled := range choices(4) {
			for i := range l {
				raw(t, l[i], "j/a", newer)
			}
			for _, i := range spoiled {
				do(i, newer)
			}
			got := step(t, what, s, l, look("a"), noFuse)
			seq, votes := 2, 4-len(spoiled)
			if votes == 0 {
				seq = 0
				if what == "older" {
					seq, votes = 1, 4
				}
			}
			if got.err != api.OK || got.c.J.Seq != seq || got.c.Votes != votes || got.c.Answers != 4 || got.c.Found != (seq > 0) {
				t.Errorf("%s on %v: %v", what, spoiled, got)
			}
		}
	}
}

// TestLookChangesNothing: what drives have is as it was, whatever is wrong with it.
func TestLookChangesNothing(t *testing.T) {
	l, s := fresh(t, 3, 2)
	must(t, s, put("a", version("x", 1), []byte("abc")))
	l[0].Delete("j/a")
	l[1].Turn("s/a-"+version("x", 1).Data, 3, 1)
	was := clones(l)
	must(t, s, look("a"), look("b"))
	wantDrives(t, "Look", l, was)
}
