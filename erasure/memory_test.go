package erasure_test

import (
	"bytes"
	"fmt"
	"slices"
	"testing"

	"stowage/api"
	"stowage/drive"
	"stowage/erasure"
	"stowage/record"
)

// What stands in spare room.
const (
	spare = 0xAB
	room  = 80
)

// sparePart is a part that would make a record wrong if it were looked at.
func sparePart() api.PartSize { return api.PartSize{Number: -7, Size: 8888} }

// roomy is a copy of a list with marked room behind it.
func roomy[T any](l []T, mark T) []T {
	all := slices.Concat(l, slices.Repeat([]T{mark}, room))
	return all[:len(l):len(all)]
}

// behind is the spare room of a list.
func behind[T any](l []T) []T { return l[:cap(l)][len(l):] }

// fill writes all over a list and its spare room.
func fill[T any](l []T, v T) {
	l = l[:cap(l)]
	for i := range l {
		l[i] = v
	}
}

// parted is a version that came in parts, of 3 bytes.
func parted(id string, n int) api.Record {
	r := version(id, n)
	r.Parts = []api.PartSize{{Number: 1, Size: 1}, {Number: 9, Size: 2}}
	r.Up = "up"
	return r
}

// fillAnswer writes all over an answer's lists.
func fillAnswer(a answer) {
	fill(a.r.Parts, api.PartSize{Number: -9})
	fill(a.b, 77)
	fill(a.paths, "filled")
	fill(a.c.B, 78)
	fill(a.c.Has, true)
	for _, r := range a.c.J.Records {
		fill(r.Parts, api.PartSize{Number: -8})
	}
	fill(a.c.J.Records, api.Record{ID: "filled"})
}

// TestNewKeepsNoList: neither the list nor its spare room is changed, read or kept.
func TestNewKeepsNoList(t *testing.T) {
	drawn := made(t, 4, 1<<20)
	for n := range 5 {
		for _, k := range []int{0, 1, 2, 3, 4} {
			l := roomy(drawn[:n], nil)
			s, err := erasure.New(l, k)
			if !slices.Equal(l, drawn[:n]) || slices.ContainsFunc(behind(l), func(d *drive.Drive) bool { return d != nil }) {
				t.Errorf("New(%d drives, %d) changed its list", n, k)
			}
			if err != api.OK {
				continue
			}
			fill(l, made(t, 1, 10)[0])
			must(t, s, put("a", version("x", n*10+k), []byte("abc")), drop("a", "x"))
			if l[0].Ops() != 0 {
				t.Errorf("New(%d drives, %d) kept its list", n, k)
			}
		}
	}
}

// TestPutChangesNothing: the record's parts, the bytes and their spare room are as they were, whatever is answered, and are no part of it.
func TestPutChangesNothing(t *testing.T) {
	full := parted("full", 9)
	full.Parts = nil
	for range 32 {
		full.Parts = append(full.Parts, api.PartSize{Number: len(full.Parts) + 1})
	}
	full.Parts[31].Size = 3
	cases := map[string]call{
		"parts": put("a", parted("x", 1), []byte("abc")), "as many parts as may be": put("a", full, []byte("abc")), "in another's place": put("a", parted("old", 2), []byte("abc")),
		"no parts": put("a", version("x", 1), text(1000, 1)), "wrong": put("a", parted("x", 1), []byte("ab")), "there": put("a", parted("x", 5), []byte("abc")),
		"a mark": put("a", mark("x", 1), nil), "a mark with bytes": put("a", mark("x", 1), []byte("x")), "too long": put("a", parted("x", 1), make([]byte, 65537)),
		"as long as may be": put("a", version("x", 1), make([]byte, 65536)), "none": put("a", version("x", 1), nil), "a wrong path": put("a b", parted("x", 1), []byte("abc")),
	}
	for what, c := range cases {
		for _, state := range []string{"up", "full", "away", "stopped"} {
			l, s := fresh(t, 3, 2)
			must(t, s, put("a", parted("old", 5), []byte("abc")))
			switch state {
			case "full":
				l[1].Full(true)
			case "away":
				away(l, 0, 2)
			case "stopped":
				drive.Fuse(l, 5)
			}
			r, b := c.r, roomy(c.b, spare)
			r.Parts = roomy(c.r.Parts, sparePart())
			got := ask(s, put(c.path, r, b))
			line := fmt.Sprint(what, ", ", state)
			if !record.Same(r, c.r) || !bytes.Equal(b, c.b) || !slices.Equal(behind(r.Parts), slices.Repeat([]api.PartSize{sparePart()}, room)) || !bytes.Equal(behind(b), bytes.Repeat([]byte{spare}, room)) {
				t.Errorf("%s: what was handed in was changed", line)
			}
			if got.err != api.OK {
				continue
			}
			fill(r.Parts, sparePart())
			fill(b, 5)
			wanted := whole(c.r, c.b, 2, 1)
			if !sameAnswer(got, answer{r: wanted}) {
				t.Errorf("%s: the answer was what was handed in: %v", line, got)
			}
			fillAnswer(got)
			got = ask(s, get("a", c.r.ID))
			if !record.Same(got.r, wanted) || !bytes.Equal(got.b, c.b) {
				t.Errorf("%s: it was kept: %v", line, got)
			}
		}
	}
}

// TestAnswersAreTheirOwn: whoever writes all over an answer changes nothing that a later call tells.
func TestAnswersAreTheirOwn(t *testing.T) {
	begun, s := fresh(t, 4, 2)
	must(t, s, put("a", parted("x", 1), []byte("abc")), put("a", mark("m", 2), nil), put("a", parted("y", 3), []byte("def")), put("b", version("x", 1), nil))
	begun[0].Delete(shardName(1))
	begun[1].Delete("j/a")
	for _, c := range []call{look("a"), look("none"), get("a", "x"), get("a", ""), get("a", "m"), part("a", "x", 1, 2), part("a", "", 0, 0), drop("a", "x"), drop("a", "m"), heal("a"), allPaths(), withVersions(), put("a", parted("z", 4), []byte("ghi"))} {
		l, other := clones(begun), clones(begun)
		s, plain := set(t, l, 2), set(t, other, 2)
		first := ask(s, c)
		ask(plain, c)
		fillAnswer(first)
		wantDrives(t, c.String(), l, other)
		for _, then := range []call{c, look("a"), get("a", ""), get("a", "y"), allPaths(), withVersions()} {
			got, wanted := ask(s, then), ask(plain, then)
			if !sameAnswer(got, wanted) {
				t.Errorf("%v, filled, then %v: %v; want %v", c, then, got, wanted)
			}
			fillAnswer(got)
		}
		wantDrives(t, c.String(), l, other)
	}
}

// TestListsOfOneAnswer: no two lists of one answer share memory, their spare room neither.
func TestListsOfOneAnswer(t *testing.T) {
	_, s := fresh(t, 4, 2)
	for i := range 5 {
		must(t, s, put("a", parted(fmt.Sprint("v", i), i), []byte("abc")))
	}
	for at := range 5 {
		c, _ := s.Look("a")
		was, _ := s.Look("a")
		fill(c.J.Records[at].Parts, sparePart())
		fill(c.B, 1)
		for i, r := range c.J.Records {
			if i != at && !record.Same(r, was.J.Records[i]) {
				t.Errorf("the parts of %d are those of %d", at, i)
			}
		}
		if !slices.Equal(c.Has, was.Has) {
			t.Error("Has is B")
		}
	}
	r, b, _ := s.Get("a", "v1")
	fill(b, 7)
	if !record.Same(r, whole(parted("v1", 1), []byte("abc"), 2, 2)) {
		t.Errorf("the record is the bytes: %v", r)
	}
}

// TestNothingBesideErrors: zero values beside each error, but beside ErrMark, which the record is told with.
func TestNothingBesideErrors(t *testing.T) {
	seen := map[api.Errno]int{}
	for _, state := range []string{"up", "few", "full", "stopped", "lost"} {
		l, s := fresh(t, 3, 2)
		must(t, s, put("a", version("x", 1), []byte("abc")), put("a", mark("m", 2), nil))
		switch state {
		case "few":
			away(l, 0, 1)
		case "full":
			l[2].Full(true)
		case "stopped":
			drive.Fuse(l, 2)
		case "lost":
			l[0].Delete(shardName(1))
			raw(t, l[1], shardName(1), nil)
		}
		for _, path := range []string{"a", "none", "a b"} {
			for _, c := range slices.Concat(wrongCalls(path), []call{look(path), get(path, ""), get(path, "m"), part(path, "m", 0, 1), get(path, "z"), get(path, "x"), part(path, "x", 2, 9), drop(path, "z"), put(path, version("y", 1), nil), put(path, version("x", 2), nil), drop(path, "x"), heal(path), recovers(), allPaths(), withVersions()}) {
				got := ask(s, c)
				seen[got.err]++
				switch {
				case got.err == api.ErrMark && !sameAnswer(got, answer{r: mark("m", 2), err: api.ErrMark}):
					t.Errorf("%s: %v: %v", state, c, got)
				case got.err != api.OK && got.err != api.ErrMark && !sameAnswer(got, refused(got.err)):
					t.Errorf("%s: %v: %v", state, c, got)
				}
			}
		}
	}
	for _, err := range []api.Errno{api.OK, api.ErrArg, api.ErrLong, api.ErrRange, api.ErrMissing, api.ErrThere, api.ErrQuorum, api.ErrBroken, api.ErrName, api.ErrMark} {
		if seen[err] == 0 {
			t.Errorf("no call answered %v", err)
		}
	}
}
