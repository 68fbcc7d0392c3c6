package pool_test

import (
	"bytes"
	"fmt"
	"slices"
	"testing"

	"stowage/api"
	"stowage/drive"
	"stowage/pool"
	"stowage/record"
)

// What stands in spare room.
const (
	spare = 0xAB
	room  = 80
)

// sparePart is a part that would make a record wrong if it were looked at.
func sparePart() api.PartSize { return api.PartSize{Number: -7, Size: 8888} }

// roomy is a copy of a list with marked room behind it.
func roomy[T any](l []T, mark T) []T {
	all := slices.Concat(l, slices.Repeat([]T{mark}, room))
	return all[:len(l):len(all)]
}

// behind is the spare room of a list.
func behind[T any](l []T) []T { return l[:cap(l)][len(l):] }

// fill writes all over a list and its spare room.
func fill[T any](l []T, v T) {
	l = l[:cap(l)]
	for i := range l {
		l[i] = v
	}
}

// parted is a version that came in parts, of 3 bytes.
func parted(id string, n int) api.Record {
	r := version(id, n)
	r.Parts = []api.PartSize{{Number: 1, Size: 1}, {Number: 9, Size: 2}}
	r.Up = "up"
	return r
}

// fillAnswer writes all over an answer's lists.
func fillAnswer(a answer) {
	fill(a.r.Parts, api.PartSize{Number: -9})
	fill(a.b, 77)
	fill(a.paths, "filled")
	fill(a.c.B, 78)
	fill(a.c.Has, true)
	for _, r := range a.c.J.Records {
		fill(r.Parts, api.PartSize{Number: -8})
	}
	fill(a.c.J.Records, api.Record{ID: "filled"})
}

// TestOpenKeepsNoList: neither the list nor its spare room is changed, read or kept, whatever is answered.
func TestOpenKeepsNoList(t *testing.T) {
	for n := range 10 {
		for _, s := range someShapes() {
			for _, state := range []string{"up", "away", "out", "strange", "stopped"} {
				drawn := made(t, n, 1<<20)
				l := roomy(drawn, nil)
				switch {
				case n == 0:
				case state == "away":
					away(l, 0, n-1)
				case state == "out":
					out(l, n-1)
				case state == "strange":
					raw(t, l[0], "format", written(3, 3, 3, 2, 1))
				case state == "stopped":
					drive.Fuse(l, 4)
				}
				p, err := pool.Open(l, s.k, s.m, s.sets)
				what := fmt.Sprintf("Open of %d drives, %v, %s", n, s, state)
				if !slices.Equal(l, drawn) || slices.ContainsFunc(behind(l), func(d *drive.Drive) bool { return d != nil }) {
					t.Errorf("%s changed its list", what)
				}
				if err != api.OK || state != "up" {
					continue
				}
				fill(l, blank(t))
				must(t, p, put("a", version("x", n), []byte("abc")), drop("a", "x"))
				if l[0].Ops() != 0 {
					t.Errorf("%s kept its list", what)
				}
			}
		}
	}
}

// TestListsThatGoOn: drives in the spare room are none of those that are handed in.
func TestListsThatGoOn(t *testing.T) {
	s := shape{1, 1, 2}
	l := made(t, 7, 1000)
	wantOpen(t, "one is in the room", l[:3], s, api.ErrArg)
	wantOpen(t, "three are in the room", l[:4], s, api.OK)
	for i, d := range l[4:] {
		if d.Ops() != 0 {
			t.Errorf("drive %d was changed", 4+i)
		}
	}
}

// TestPutChangesNothing: the record's parts, the bytes and their spare room are as they were, whatever is answered, and are no part of it.
func TestPutChangesNothing(t *testing.T) {
	s := shape{2, 1, 2}
	cases := map[string]call{
		"parts": put("a", parted("x", 1), []byte("abc")), "in another's place": put("a", parted("old", 2), []byte("abc")), "of another set": put(pathsOf(2, 1)[1-setOf("a", 2)][0], parted("x", 1), []byte("abc")),
		"no parts": put("a", version("x", 1), text(1000, 1)), "wrong": put("a", parted("x", 1), []byte("ab")), "there": put("a", parted("x", 5), []byte("abc")),
		"a mark": put("a", mark("x", 1), nil), "a mark with bytes": put("a", mark("x", 1), []byte("x")), "too long": put("a", parted("x", 1), make([]byte, 65537)),
		"as long as may be": put("a", version("x", 1), make([]byte, 65536)), "none": put("a", version("x", 1), nil), "a wrong path": put("a b", parted("x", 1), []byte("abc")),
	}
	for what, c := range cases {
		for _, state := range []string{"up", "full", "away", "stopped"} {
			l, p := fresh(t, s)
			must(t, p, put("a", parted("old", 5), []byte("abc")))
			switch state {
			case "full":
				l[1].Full(true)
				l[4].Full(true)
			case "away":
				away(l, 0, 2, 3, 5)
			case "stopped":
				drive.Fuse(l, 5)
			}
			r, b := c.r, roomy(c.b, spare)
			r.Parts = roomy(c.r.Parts, sparePart())
			got := ask(p, put(c.path, r, b))
			line := fmt.Sprint(what, ", ", state)
			if !record.Same(r, c.r) || !bytes.Equal(b, c.b) || !slices.Equal(behind(r.Parts), slices.Repeat([]api.PartSize{sparePart()}, room)) || !bytes.Equal(behind(b), bytes.Repeat([]byte{spare}, room)) {
				t.Errorf("%s: what was handed in was changed", line)
			}
			if got.err != api.OK {
				continue
			}
			fill(r.Parts, sparePart())
			fill(b, 5)
			wanted := whole(c.r, c.b, s)
			if !sameAnswer(got, answer{r: wanted}) {
				t.Errorf("%s: the answer was what was handed in: %v", line, got)
			}
			fillAnswer(got)
			got = ask(p, get(c.path, c.r.ID))
			if !record.Same(got.r, wanted) || !bytes.Equal(got.b, c.b) {
				t.Errorf("%s: it was kept: %v", line, got)
			}
		}
	}
}

// TestAnswersAreTheirOwn: whoever writes all over an answer changes nothing that a later call tells.
func TestAnswersAreTheirOwn(t *testing.T) {
	s := shape{2, 2, 2}
	start, p := fresh(t, s)
	one, two := pathsOf(2, 1)[0][0], pathsOf(2, 1)[1][0]
	must(t, p, put(one, parted("x", 1), []byte("abc")), put(one, mark("m", 2), nil), put(one, parted("y", 3), []byte("def")), put(two, version("x", 1), nil))
	start[0].Delete(shardName(one, 1))
	start[1].Delete("j/" + one)
	for _, c := range []call{look(one), look("none"), get(one, "x"), get(two, ""), get(one, "m"), part(one, "x", 1, 2), part(one, "", 0, 0), drop(one, "x"), drop(one, "m"), heal(one), paths(""), paths("p"), healAll(), put(one, parted("z", 4), []byte("ghi"))} {
		l, other := clones(start), clones(start)
		p, plain := opened(t, l, s), opened(t, other, s)
		first := ask(p, c)
		ask(plain, c)
		fillAnswer(first)
		wantDrives(t, c.String(), l, other)
		for _, then := range []call{c, look(one), get(one, ""), get(one, "y"), paths(""), healAll()} {
			got, wanted := ask(p, then), ask(plain, then)
			if !sameAnswer(got, wanted) {
				t.Errorf("%v, filled, then %v: %v; want %v", c, then, got, wanted)
			}
			fillAnswer(got)
		}
		wantDrives(t, c.String(), l, other)
	}
}

// TestListsOfOneAnswer: no two lists of one answer share memory, their spare room neither.
func TestListsOfOneAnswer(t *testing.T) {
	s := shape{2, 2, 2}
	_, p := fresh(t, s)
	for i := range 5 {
		must(t, p, put("a", parted(fmt.Sprint("v", i), i), []byte("abc")))
	}
	for at := range 5 {
		c, _ := p.Look("a")
		was, _ := p.Look("a")
		fill(c.J.Records[at].Parts, sparePart())
		fill(c.B, 1)
		for i, r := range c.J.Records {
			if i != at && !record.Same(r, was.J.Records[i]) {
				t.Errorf("the parts of %d are those of %d", at, i)
			}
		}
		if !slices.Equal(c.Has, was.Has) {
			t.Error("Has is B")
		}
	}
	r, b, _ := p.Get("a", "v1")
	fill(b, 7)
	if !record.Same(r, whole(parted("v1", 1), []byte("abc"), s)) {
		t.Errorf("the record is the bytes: %v", r)
	}
}

// TestNothingBesideErrors: zero values beside each error, but beside ErrMark, which the record is told with.
func TestNothingBesideErrors(t *testing.T) {
	s := shape{2, 1, 2}
	seen := map[api.Errno]int{}
	for _, state := range []string{"up", "few", "full", "stopped", "lost"} {
		for set, paths2 := range pathsOf(2, 2) {
			path := paths2[0]
			l, p := fresh(t, s)
			must(t, p, put(path, version("x", 1), []byte("abc")), put(path, mark("m", 2), nil))
			own := some(l, s.places(set))
			switch state {
			case "few":
				away(own, 0, 1)
			case "full":
				own[2].Full(true)
			case "stopped":
				drive.Fuse(own, 2)
			case "lost":
				own[0].Delete(shardName(path, 1))
				raw(t, own[1], shardName(path, 1), nil)
			}
			var calls []call
			for _, path := range []string{path, paths2[1], "a b"} {
				calls = slices.Concat(calls, wrongCalls(path), []call{look(path), get(path, ""), get(path, "m"), part(path, "m", 0, 1), get(path, "z"), get(path, "x"), part(path, "x", 2, 9), drop(path, "z"), put(path, version("y", 1), nil), put(path, version("x", 2), nil), drop(path, "x"), heal(path)})
			}
			for _, c := range append(calls, paths(""), healAll()) {
				got := ask(p, c)
				seen[got.err]++
				switch {
				case got.err == api.ErrMark && !sameAnswer(got, answer{r: mark("m", 2), err: api.ErrMark}):
					t.Errorf("%s: %v: %v", state, c, got)
				case got.err != api.OK && got.err != api.ErrMark && !sameAnswer(got, refused(got.err)):
					t.Errorf("%s: %v: %v", state, c, got)
				}
			}
		}
	}
	for _, err := range []api.Errno{api.OK, api.ErrArg, api.ErrLong, api.ErrRange, api.ErrMissing, api.ErrThere, api.ErrQuorum, api.ErrBroken, api.ErrName, api.ErrMark} {
		if seen[err] == 0 {
			t.Errorf("no call answered %v", err)
		}
	}
}
