package erasure_test

import (
	"fmt"
	"slices"
	"strings"
	"testing"

	"stowage/api"
)

// wantPaths asks what All and Paths tell.
func wantPaths(t *testing.T, what string, l drives, k int, all, some []string) {
	t.Helper()
	s := set(t, l, k)
	if got := step(t, what, s, l, allPaths(), noFuse); !sameAnswer(got, answer{paths: all}) {
		t.Errorf("%s: All: %v; want %.20q", what, got, all)
	}
	if got := step(t, what, s, l, withVersions(), noFuse); !sameAnswer(got, answer{paths: some}) {
		t.Errorf("%s: Paths: %v; want %.20q", what, got, some)
	}
}

// TestPaths: all objects, in order; those without versions any more are told by All alone.
func TestPaths(t *testing.T) {
	l, s := fresh(t, 3, 2)
	wantPaths(t, "fresh", l, 2, nil, nil)
	for i, path := range []string{"b", "a/b", "a", "a-", "~", "!", "a/", "B", "c"} {
		must(t, s, put(path, version("x", i), []byte(path)))
	}
	all := []string{"!", "B", "a", "a-", "a/", "a/b", "b", "c", "~"}
	wantPaths(t, "laid", l, 2, all, all)
	must(t, s, drop("a", "x"), put("b", mark("m", 20), nil), drop("b", "x"), drop("~", "x"))
	wantPaths(t, "some dropped", l, 2, all, []string{"!", "B", "a-", "a/", "a/b", "b", "c"})
	must(t, s, drop("b", "m"), put("a", version("x", 1), nil))
	wantPaths(t, "some dropped", l, 2, all, []string{"!", "B", "a", "a-", "a/", "a/b", "c"})
	must(t, s, recovers())
	wantPaths(t, "recovered", l, 2, all, []string{"!", "B", "a", "a-", "a/", "a/b", "c"})
}

// TestPathsAway: with each choice of drives that are down.
func TestPathsAway(t *testing.T) {
	for _, size := range [][2]int{{2, 1}, {3, 1}, {3, 2}, {5, 3}} {
		n, k := size[0], size[1]
		l, s := fresh(t, n, k)
		must(t, s, put("b", version("x", 1), nil), put("a", version("x", 1), nil), put("c", mark("x", 1), nil), drop("c", "x"))
		for _, gone := range choices(n) {
			back(l)
			away(l, gone...)
			if n-len(gone) >= k {
				wantPaths(t, fmt.Sprint(gone, " away"), l, k, []string{"a", "b", "c"}, []string{"a", "b"})
				continue
			}
			for _, c := range []call{allPaths(), withVersions()} {
				if got := step(t, fmt.Sprint(gone, " away"), s, l, c, noFuse); !sameAnswer(got, answer{err: api.ErrQuorum}) {
					t.Errorf("%v of %d away: %v: %v", gone, n, c, got)
				}
			}
		}
	}
}

// TestPathsOfSome: a journal on any one drive suffices; a drive that is away tells of none.
func TestPathsOfSome(t *testing.T) {
	begun, s := fresh(t, 4, 2)
	must(t, s, put("a", version("x", 1), nil), put("b", version("x", 1), nil))
	for _, gone := range choices(4) {
		l := clones(begun)
		for _, i := range gone {
			l[i].Delete("j/b")
		}
		wanted := []string{"a", "b"}
		if len(gone) == 4 {
			wanted = wanted[:1]
		}
		wantPaths(t, fmt.Sprint("gone from ", gone), l, 2, wanted, wanted)
		for i := range l {
			on := clones(l)
			away(on, i)
			wanted := []string{"a", "b"}
			if left := 4 - len(gone); left == 0 || left == 1 && !slices.Contains(gone, i) {
				wanted = wanted[:1]
			}
			wantPaths(t, fmt.Sprint("gone from ", gone, ", away ", i), on, 2, wanted, wanted)
		}
	}
}

// TestPathsOfOther: files that are no paths' journals are none's; a journal that is not read has no records.
func TestPathsOfOther(t *testing.T) {
	l, s := fresh(t, 3, 2)
	must(t, s, put("a", version("x", 1), nil))
	for _, name := range []string{"j", "j/" + strings.Repeat("p", 401), "j/" + strings.Repeat("p", 510), "J/b", "s/c-1", "tmp/j/d", "boot", "aj/e", "j-f"} {
		raw(t, l[1], name, []byte(filesOf(l[0])["j/a"].b))
	}
	raw(t, l[2], "j/", nil)
	raw(t, l[2], "j/broken", []byte("no journal"))
	raw(t, l[2], "j/"+strings.Repeat("p", 400), []byte(filesOf(l[0])["j/a"].b))
	long := strings.Repeat("p", 400)
	wantPaths(t, "others", l, 2, []string{"a", "broken", long}, []string{"a", long})
	for _, d := range l {
		d.Turn("j/a", 3, 1)
	}
	wantPaths(t, "turned", l, 2, []string{"a", "broken", long}, []string{long})
}

// TestPathsOfNewest: whether an object has versions is told by the journal that counts.
func TestPathsOfNewest(t *testing.T) {
	l, s := fresh(t, 4, 2)
	must(t, s, put("a", version("x", 1), nil), put("b", version("x", 1), nil), drop("b", "x"))
	away(l, 0)
	must(t, s, drop("a", "x"), put("b", version("x", 1), nil))
	back(l)
	wantPaths(t, "one is behind", l, 2, []string{"a", "b"}, []string{"b"})
}

// TestPathsMany: more objects than a page.
func TestPathsMany(t *testing.T) {
	l, s := fresh(t, 2, 1)
	var wanted []string
	for i := range 300 {
		path := fmt.Sprintf("p%03d", i)
		wanted = append(wanted, path)
		must(t, s, put(fmt.Sprintf("p%03d", (i*7)%300), version("x", 1), nil))
	}
	wantPaths(t, "many", l, 1, wanted, wanted)
}
