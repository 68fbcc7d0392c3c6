package tally_test

import (
	"bytes"
	"crypto/sha256"
	"fmt"
	"math"
	"math/rand"
	"reflect"
	"slices"
	"strings"
	"testing"

	"stowage/api"
	"stowage/journal"
	"stowage/tally"
)

const (
	maxDrives = 16
	maxSeq    = 1 << 40
)

// hasJournal, answers and votesOf tell what the document's words say of drives.
func hasJournal(c api.Copy) bool {
	_, err := journal.Read(c.B)
	return c.Err == api.OK && err == api.OK
}

func answers(c api.Copy) bool { return c.Err == api.OK || c.Err == api.ErrMissing }

func votesOf(l []api.Copy, b []byte) int {
	n := 0
	for _, c := range l {
		if hasJournal(c) && bytes.Equal(c.B, b) {
			n++
		}
	}
	return n
}

func answersOf(l []api.Copy) int {
	n := 0
	for _, c := range l {
		if answers(c) {
			n++
		}
	}
	return n
}

// topOf is the place of the first drive whose journal is passed by none, -1 if there is no journal.
func topOf(l []api.Copy) int {
	return slices.IndexFunc(l, func(c api.Copy) bool {
		return hasJournal(c) && !slices.ContainsFunc(l, func(other api.Copy) bool { return hasJournal(other) && passes(l, other, c) })
	})
}

// passes tells whether one journal counts more than another one, wherever they stand.
func passes(l []api.Copy, one, other api.Copy) bool {
	a, _ := journal.Read(one.B)
	b, _ := journal.Read(other.B)
	return a.Seq > b.Seq || a.Seq == b.Seq && votesOf(l, one.B) > votesOf(l, other.B)
}

// modelElect and modelBehind tell what the document says.
func modelElect(l []api.Copy, k int) (api.Choice, api.Errno) {
	if len(l) > maxDrives || k < 1 || k > len(l) {
		return api.Choice{}, api.ErrArg
	}
	if answersOf(l) < k {
		return api.Choice{}, api.ErrQuorum
	}
	c := api.Choice{Answers: answersOf(l)}
	top := topOf(l)
	for _, x := range l {
		c.Has = append(c.Has, top >= 0 && hasJournal(x) && bytes.Equal(x.B, l[top].B))
	}
	if top >= 0 {
		c.Found, c.B, c.Votes = true, bytes.Clone(l[top].B), votesOf(l, l[top].B)
		c.J, _ = journal.Read(l[top].B)
	}
	return c, api.OK
}

func modelBehind(l []api.Copy, c api.Choice) ([]bool, api.Errno) {
	if len(l) > maxDrives || len(c.Has) != len(l) {
		return nil, api.ErrArg
	}
	var behind []bool
	for i, x := range l {
		behind = append(behind, answers(x) && c.Found && !c.Has[i])
	}
	return behind, api.OK
}

// level tells the same choice with nil for each empty list, in memory of its own.
func level(c api.Choice) api.Choice {
	c.J = journal.Copy(c.J)
	if len(c.J.Records) == 0 {
		c.J.Records = nil
	}
	for i, r := range c.J.Records {
		c.J.Records[i].Parts = append([]api.PartSize(nil), r.Parts...)
	}
	c.B = append([]byte(nil), c.B...)
	c.Has = append([]bool(nil), c.Has...)
	return c
}

func same(a, b api.Choice) bool { return reflect.DeepEqual(level(a), level(b)) }

// short is a value as a text that is not too long to be read.
func short(v any) string {
	s := fmt.Sprintf("%v", v)
	return s[:min(len(s), 400)]
}

// shown is a line for a list of copies.
func shown(l []api.Copy) string {
	var all []string
	for _, c := range l {
		j, err := journal.Read(c.B)
		all = append(all, fmt.Sprintf("%d:%d bytes:Seq %d:%d", c.Err, len(c.B), j.Seq, err))
	}
	return strings.Join(all, " ")
}

// wantChoice asks for an answer, and for zero values beside an error.
func wantChoice(t *testing.T, what string, l []api.Copy, k int, wanted api.Choice, wantedErr api.Errno) {
	t.Helper()
	if c, err := tally.Elect(l, k); !same(c, wanted) || err != wantedErr {
		t.Errorf("%s: Elect(%s, %d): %s, %d; want %s, %d", what, shown(l), k, short(c), err, short(wanted), wantedErr)
	}
}

// wantNoChoice asks for an error, with nothing beside it.
func wantNoChoice(t *testing.T, what string, l []api.Copy, k int, wanted api.Errno) {
	t.Helper()
	wantChoice(t, what, l, k, api.Choice{}, wanted)
}

// wantTop asks whether the journal of one drive counts, and these drives have it.
func wantTop(t *testing.T, what string, l []api.Copy, k, top int, has ...int) {
	t.Helper()
	wanted := api.Choice{Found: true, B: l[top].B, Has: make([]bool, len(l)), Answers: answersOf(l), Votes: len(has)}
	wanted.J, _ = journal.Read(l[top].B)
	for _, i := range has {
		wanted.Has[i] = true
	}
	wantChoice(t, what, l, k, wanted, api.OK)
}

// wantNone asks whether no journal is found.
func wantNone(t *testing.T, what string, l []api.Copy, k int) {
	t.Helper()
	wantChoice(t, what, l, k, api.Choice{Has: make([]bool, len(l)), Answers: answersOf(l)}, api.OK)
}

// ask holds Elect, and Behind of what it tells, against the model.
func ask(t *testing.T, what string, l []api.Copy, k int) {
	t.Helper()
	wanted, wantedErr := modelElect(l, k)
	wantChoice(t, what, l, k, wanted, wantedErr)
	c, _ := tally.Elect(l, k)
	askBehind(t, what, l, c)
}

func mark(id string, at int) api.Record { return api.Record{ID: id, Time: at, Mark: true} }

func parted(id string) api.Record {
	return api.Record{
		ID: id, Time: 300, Size: 65, ETag: "f-2", K: 12, M: 4, Data: strings.Repeat("0", 32), Sum: api.Digest{0: 1, 31: 255},
		Parts: []api.PartSize{{Number: 1, Size: 60}, {Number: 200, Size: 5}}, Up: "up",
	}
}

// of is a journal of a Seq; each number makes another one.
func of(seq, n int) api.Journal {
	j := api.Journal{Seq: seq}
	if n == 0 {
		return j
	}
	j.Records = []api.Record{mark("null", n)}
	if n%2 == 0 {
		j.Records = append(j.Records, parted("p"))
	}
	return j
}

// full is a journal with as many records as there may be.
func full(seq int) api.Journal {
	j := api.Journal{Seq: seq}
	for i := range api.MaxVersions {
		j.Records = append(j.Records, parted(fmt.Sprint("v", i)))
	}
	return j
}

// bytesOf is the bytes of a journal that may be.
func bytesOf(j api.Journal) []byte {
	b, err := journal.Bytes(j)
	if err != api.OK {
		panic(err)
	}
	return b
}

// has is a drive that has a journal.
func has(seq, n int) api.Copy { return api.Copy{B: bytesOf(of(seq, n))} }

// says is a drive that answers an error.
func says(err api.Errno) api.Copy { return api.Copy{Err: err} }

// beside is a copy with an error beside its bytes.
func beside(err api.Errno, c api.Copy) api.Copy { return api.Copy{Err: err, B: c.B} }

// sealed is bytes with their digest behind them.
func sealed(s string) []byte {
	sum := sha256.Sum256([]byte(s))
	return append([]byte(s), sum[:]...)
}

// turned is a copy whose bytes are another one at one place.
func turned(c api.Copy, at int, by byte) api.Copy {
	b := bytes.Clone(c.B)
	b[at] ^= by
	return api.Copy{Err: c.Err, B: b}
}

// times is so many of a copy.
func times(n int, c api.Copy) []api.Copy { return slices.Repeat([]api.Copy{c}, n) }

// silent are errors with which a drive does not answer.
func silent() []api.Errno {
	all := []api.Errno{-1, -6, 16, 100, 106, 160, 420, 256, 262, 1 << 32, 1<<32 + 6, math.MinInt, math.MaxInt}
	for err := api.ErrNil; err <= api.ErrMark; err++ {
		if err != api.ErrMissing {
			all = append(all, err)
		}
	}
	return all
}

// noJournals are bytes that no journal has.
func noJournals() map[string][]byte {
	one := bytesOf(of(9, 1))
	all := map[string][]byte{
		"nil": nil, "empty": {}, "a byte": {0}, "a sign": []byte("SJ1"), "35 zeroes": make([]byte, 35), "many zeroes": make([]byte, 5000),
		"a sign and its digest": sealed("SJ1"), "the digest of nothing": sealed(""), "another sign": sealed("SJ2\x09\x00"),
		"Seq 0": sealed("SJ1\x00\x00"), "a Seq too great": sealed("SJ1\x81\x80\x80\x80\x80\x20\x00"), "a Seq of too many bytes": sealed("SJ1\x89\x00\x00"),
		"65 records": sealed("SJ1\x09\x41" + strings.Repeat("\x01a\x05\x01", 65)), "two of one ID": sealed("SJ1\x09\x02\x01a\x05\x01\x01a\x06\x01"),
		"a record fewer than told": sealed("SJ1\x09\x02\x01a\x05\x01"), "a record more than told": sealed("SJ1\x09\x00\x01a\x05\x01"),
		"a record that may not be": sealed("SJ1\x09\x01\x01A\x05\x01"), "a byte behind": append(bytes.Clone(one), 0), "a byte ahead": append([]byte{0}, one...),
		"twice": append(bytes.Clone(one), one...), "all but one byte": one[:len(one)-1], "its second half": one[len(one)/2:],
	}
	for i := range one {
		all[fmt.Sprint("turned at ", i)] = turned(api.Copy{B: one}, i, 1<<(i%8)).B
	}
	return all
}

// counts are numbers that k may be, and such that it may not, for so many copies.
func counts(n int) []int {
	return []int{math.MinInt, math.MinInt + 1, math.MinInt32, -maxDrives, -n, -1, 0, 1, 2, n - 1, n, n + 1, n + 2, maxDrives, maxDrives + 1, 1 << 32, 1<<32 + 1, math.MaxInt - 1, math.MaxInt}
}

// TestExamples are those of the chapter.
func TestExamples(t *testing.T) {
	a, b, none, off, broken := has(1, 0), has(2, 0), says(api.ErrMissing), says(api.ErrOffline), says(api.ErrBroken)
	wantTop(t, "A, A, B", []api.Copy{a, a, b}, 2, 2, 2)
	wantTop(t, "A, offline, A", []api.Copy{a, off, a}, 2, 0, 0, 2)
	wantNoChoice(t, "A, offline, broken", []api.Copy{a, off, broken}, 2, api.ErrQuorum)
	wantNone(t, "none, none, none", []api.Copy{none, none, none}, 2)
	for at := range a.B {
		l := []api.Copy{turned(a, at, 1), a, none}
		wantTop(t, "A with a byte turned, A, none", l, 1, 1, 1)
		c, _ := tally.Elect(l, 1)
		wantBehind(t, "A with a byte turned, A, none", l, c, []bool{true, false, true}, api.OK)
	}
}

// TestHowMany: there are at most 16 copies, and k is from 1 to how many there are.
func TestHowMany(t *testing.T) {
	for _, n := range []int{0, 1, 2, 15, 16, 17, 18, 32, 256, 272, 5000} {
		for _, k := range counts(n) {
			var places []int
			for i := range n {
				places = append(places, i)
			}
			all, none := times(n, has(3, 1)), times(n, says(api.ErrMissing))
			if n > maxDrives || k < 1 || k > n {
				wantNoChoice(t, "all have it", all, k, api.ErrArg)
				wantNoChoice(t, "none has it", none, k, api.ErrArg)
				wantNoChoice(t, "none answers", times(n, says(api.ErrOffline)), k, api.ErrArg)
				continue
			}
			wantTop(t, "all have it", all, k, 0, places...)
			wantNone(t, "none has it", none, k)
			wantNoChoice(t, "none answers", times(n, says(api.ErrOffline)), k, api.ErrQuorum)
		}
	}
	wantNoChoice(t, "nil", nil, 1, api.ErrArg)
	wantNoChoice(t, "nil", nil, 0, api.ErrArg)
	wantNoChoice(t, "empty", []api.Copy{}, 0, api.ErrArg)
}

// TestQuorum: k drives that answer suffice, one fewer does not, whatever they answer.
func TestQuorum(t *testing.T) {
	for _, err := range silent() {
		for _, away := range []api.Copy{says(err), beside(err, has(9, 1)), {Err: err, B: []byte{}}, {Err: err, B: []byte("no journal")}} {
			for _, n := range []int{1, 2, 3, 15, 16} {
				for k := 1; k <= n; k++ {
					for _, there := range []int{k - 1, k, k + 1} {
						if there > n {
							continue
						}
						askQuorum(t, away, n, k, there)
					}
				}
			}
		}
	}
}

// askQuorum asks lists of n copies of which so many answer, at the front, at the end and in the midst.
func askQuorum(t *testing.T, away api.Copy, n, k, there int) {
	t.Helper()
	for what, c := range map[string]api.Copy{"a journal": has(3, 1), "missing": says(api.ErrMissing), "missing beside bytes": beside(api.ErrMissing, has(9, 1)), "no journal": {B: []byte{1}}} {
		for _, ahead := range []int{0, n - there, (n - there) / 2} {
			l := slices.Concat(times(ahead, away), times(there, c), times(n-there-ahead, away))
			if there < k {
				wantNoChoice(t, what, l, k, api.ErrQuorum)
				continue
			}
			if what != "a journal" {
				wantNone(t, what, l, k)
				continue
			}
			var places []int
			for i := range there {
				places = append(places, ahead+i)
			}
			wantTop(t, what, l, k, ahead, places...)
		}
	}
}

// TestAnswersOfTwoKinds: that there are bytes and that there are none count alike as answers.
func TestAnswersOfTwoKinds(t *testing.T) {
	l := []api.Copy{says(api.ErrOffline), says(api.ErrMissing), has(3, 1), says(api.ErrBroken), {B: []byte("x")}}
	for k := 1; k <= 3; k++ {
		wantTop(t, "two kinds", l, k, 2, 2)
	}
	wantNoChoice(t, "two kinds", l, 4, api.ErrQuorum)
	wantNoChoice(t, "two kinds", l, 5, api.ErrQuorum)
	wantNoChoice(t, "two kinds", l, 6, api.ErrArg)
}

// TestOrderOfErrors: ErrArg is ahead of ErrQuorum.
func TestOrderOfErrors(t *testing.T) {
	for _, n := range []int{0, 1, 3, 16, 17} {
		for _, k := range []int{0, -1, n + 1, math.MinInt, math.MaxInt} {
			wantNoChoice(t, "none answers", times(n, says(api.ErrBroken)), k, api.ErrArg)
		}
	}
	wantNoChoice(t, "17 that do not answer", times(17, says(api.ErrBroken)), 1, api.ErrArg)
	wantNoChoice(t, "17, one of which answers", append(times(16, says(api.ErrBroken)), has(1, 1)), 2, api.ErrArg)
}

// TestNoneFound: bytes that no journal has are answers, and no journals.
func TestNoneFound(t *testing.T) {
	for what, b := range noJournals() {
		c := api.Copy{B: b}
		for _, n := range []int{1, 2, 16} {
			for _, k := range []int{1, n} {
				wantNone(t, what, times(n, c), k)
			}
		}
		wantNone(t, what, []api.Copy{c, says(api.ErrMissing), c, says(api.ErrOffline)}, 3)
		wantNoChoice(t, what, []api.Copy{c, says(api.ErrMissing), c, says(api.ErrOffline)}, 4, api.ErrQuorum)
		for _, err := range silent() {
			wantNoChoice(t, what, []api.Copy{beside(err, c)}, 1, api.ErrQuorum)
		}
		wantNone(t, what, []api.Copy{beside(api.ErrMissing, c)}, 1)
	}
	wantNone(t, "copies that are zero", make([]api.Copy, 16), 16)
}

// TestBesideNoJournals: a journal counts, however many have bytes that are none, and of whatever Seq these seem to be.
func TestBesideNoJournals(t *testing.T) {
	for what, b := range noJournals() {
		for _, n := range []int{2, 3, 16} {
			for top := range n {
				l := times(n, api.Copy{B: b})
				l[top] = has(2, 1)
				wantTop(t, what, l, n, top, top)
			}
		}
	}
}

// TestGreatestSeq: the greatest Seq counts, if one drive alone has it, wherever it stands.
func TestGreatestSeq(t *testing.T) {
	for _, seqs := range [][2]int{{1, 2}, {127, 128}, {255, 256}, {9, 10}, {99, 100}, {1, maxSeq}, {maxSeq - 1, maxSeq}, {1<<31 - 1, 1 << 31}, {1, 1<<32 + 1}, {2, 1 << 32}} {
		for _, n := range []int{2, 3, 15, 16} {
			for top := range n {
				for _, kinds := range [][2]int{{0, 0}, {1, 1}, {2, 1}, {1, 2}, {4, 0}, {0, 4}} {
					l := times(n, has(seqs[0], kinds[0]))
					l[top] = has(seqs[1], kinds[1])
					wantTop(t, "one that is newer", l, 1, top, top)
					wantTop(t, "one that is newer", l, n, top, top)
				}
			}
		}
	}
}

// TestManySeqs: of 16 unlike ones the newest counts; those that are behind it do not matter.
func TestManySeqs(t *testing.T) {
	r := rand.New(rand.NewSource(91))
	for range 200 {
		l := make([]api.Copy, maxDrives)
		top := 0
		for i, at := range r.Perm(maxDrives) {
			l[i] = has(at+1, r.Intn(4))
			if at == maxDrives-1 {
				top = i
			}
		}
		wantTop(t, "all unlike", l, 1+r.Intn(maxDrives), top, top)
	}
}

// TestFullJournals: journals of as many records as there may be are told whole.
func TestFullJournals(t *testing.T) {
	old, young := api.Copy{B: bytesOf(full(maxSeq - 1))}, api.Copy{B: bytesOf(full(maxSeq))}
	l := []api.Copy{old, old, young, old, young}
	wantTop(t, "full", l, 5, 2, 2, 4)
	if c, _ := tally.Elect(l, 5); len(c.J.Records) != api.MaxVersions || !journal.Same(c.J, full(maxSeq)) {
		t.Errorf("full: %s", short(c))
	}
}

// TestMostVotes: of unlike ones of one Seq the one that most drives have counts, at every place where they may stand.
func TestMostVotes(t *testing.T) {
	for _, pair := range [][2]api.Copy{{has(5, 1), has(5, 2)}, {has(5, 2), has(5, 1)}, {has(5, 0), has(5, 3)}, {has(5, 3), has(5, 0)}} {
		for n := 1; n <= 7; n++ {
			for which := range 1 << n {
				askPair(t, pair, n, which)
			}
		}
	}
}

// askPair lays two journals by the bits of a number, and asks for the one that more have, or else for the first drive's.
func askPair(t *testing.T, pair [2]api.Copy, n, which int) {
	t.Helper()
	var l []api.Copy
	var places [2][]int
	for i := range n {
		l = append(l, pair[which>>i&1])
		places[which>>i&1] = append(places[which>>i&1], i)
	}
	top := which & 1
	if len(places[1-top]) > len(places[top]) {
		top = 1 - top
	}
	wantTop(t, "two of one Seq", l, 1, places[top][0], places[top]...)
	wantTop(t, "two of one Seq", l, n, places[top][0], places[top]...)
}

// TestTies: of those that as many have the first drive's counts, whatever stands ahead of it that is no such journal.
func TestTies(t *testing.T) {
	kinds := []api.Copy{has(5, 1), has(5, 2), has(5, 3)}
	old, none, off := has(4, 9), says(api.ErrMissing), says(api.ErrOffline)
	for _, order := range [][]int{{0, 1, 2}, {0, 2, 1}, {1, 0, 2}, {1, 2, 0}, {2, 0, 1}, {2, 1, 0}} {
		a, b, c := kinds[order[0]], kinds[order[1]], kinds[order[2]]
		wantTop(t, "two, one each", []api.Copy{a, b}, 2, 0, 0)
		wantTop(t, "three, one each", []api.Copy{a, b, c}, 3, 0, 0)
		wantTop(t, "two, two each", []api.Copy{a, b, a, b}, 4, 0, 0, 2)
		wantTop(t, "two, two each", []api.Copy{a, b, b, a}, 4, 0, 0, 3)
		wantTop(t, "three, two each", []api.Copy{a, b, c, c, b, a}, 6, 0, 0, 5)
		wantTop(t, "two of three have as many", []api.Copy{a, b, c, c, b}, 5, 1, 1, 4)
		wantTop(t, "behind older ones", []api.Copy{old, old, old, b, a, a, b}, 7, 3, 3, 6)
		wantTop(t, "behind none", []api.Copy{none, off, c, a, old}, 4, 2, 2)
		wantTop(t, "behind its bytes beside errors", []api.Copy{beside(api.ErrOffline, a), beside(api.ErrMissing, a), b, a}, 3, 2, 2)
		wantTop(t, "behind one that is turned", []api.Copy{turned(a, 7, 1), b, a}, 3, 1, 1)
		wantTop(t, "votes of errors", []api.Copy{b, beside(api.ErrOffline, a), a, beside(api.ErrMissing, a)}, 3, 0, 0)
		wantTop(t, "five each", slices.Concat(times(1, old), times(5, b), times(5, a), times(5, c)), 16, 1, 1, 2, 3, 4, 5)
		wantTop(t, "five, five and six", slices.Concat(times(5, b), times(5, a), times(6, c)), 16, 10, 10, 11, 12, 13, 14, 15)
	}
}

// TestVotesOfOlderOnes: how many have an older one does not matter, neither which one most have.
func TestVotesOfOlderOnes(t *testing.T) {
	a, b, old := has(5, 1), has(5, 2), has(4, 1)
	wantTop(t, "older ones", slices.Concat(times(10, old), []api.Copy{a, b, b}, times(3, old)), 3, 11, 11, 12)
	wantTop(t, "as many", []api.Copy{old, old, a, a}, 3, 2, 2, 3)
	// Of one journal the records are those of the older one.
	wantTop(t, "like records", []api.Copy{has(4, 1), has(4, 1), has(5, 1)}, 3, 2, 2)
}

// TestBytesBesideErrors: a drive that answers an error has nothing, whatever bytes come with it.
func TestBytesBesideErrors(t *testing.T) {
	a, young := has(5, 1), has(6, 1)
	for _, err := range append(silent(), api.ErrMissing) {
		for _, l := range [][]api.Copy{{beside(err, a), a, a}, {a, beside(err, a), a}, {a, a, beside(err, a)}, {beside(err, young), a, a}, {a, beside(err, young), a}} {
			c, e := tally.Elect(l, 2)
			at := slices.IndexFunc(l, func(c api.Copy) bool { return c.Err != api.OK })
			if e != api.OK || c.Has[at] || c.Votes != 2 || c.J.Seq != 5 || !bytes.Equal(c.B, a.B) {
				t.Errorf("bytes beside %d: %s, %d", err, short(c), e)
			}
			ask(t, "bytes beside an error", l, 2)
			ask(t, "bytes beside an error", l, 3)
		}
	}
	wantNone(t, "missing", times(3, beside(api.ErrMissing, a)), 3)
}

// alphabet are copies of every kind.
func alphabet() []api.Copy {
	a, b := has(5, 1), has(5, 2)
	return []api.Copy{a, b, has(5, 3), has(4, 1), turned(a, 20, 4), says(api.ErrMissing), beside(api.ErrMissing, b), beside(api.ErrOffline, a), {}}
}

// TestEveryShortList asks all lists of up to four copies out of the alphabet, with each k.
func TestEveryShortList(t *testing.T) {
	kinds := alphabet()
	lists := [][]api.Copy{nil}
	for range 4 {
		var longer [][]api.Copy
		for _, l := range lists {
			for _, c := range kinds {
				longer = append(longer, append(slices.Clip(l), c))
			}
		}
		lists = longer
		for _, l := range lists {
			for k := 1; k <= len(l); k++ {
				ask(t, "every list", l, k)
			}
		}
	}
}

// drawn is a list of so many copies, most of which are of a few kinds.
func drawn(r *rand.Rand, n int) []api.Copy {
	l := make([]api.Copy, n)
	seqs, kinds := 1+r.Intn(3), 1+r.Intn(4)
	errs := append(silent(), api.ErrMissing, api.ErrMissing, api.ErrMissing)
	for i := range l {
		c := has(1+r.Intn(seqs), r.Intn(kinds))
		switch r.Intn(9) {
		case 0:
			c = says(errs[r.Intn(len(errs))])
		case 1:
			c.Err = errs[r.Intn(len(errs))]
		case 2:
			c = turned(c, r.Intn(len(c.B)), 1+byte(r.Intn(255)))
		case 3:
			c.B = c.B[:r.Intn(len(c.B))]
		}
		l[i] = c
	}
	return l
}

func TestDrawn(t *testing.T) {
	r := rand.New(rand.NewSource(92))
	for range 4000 {
		n := r.Intn(maxDrives + 3)
		ask(t, "drawn", drawn(r, n), r.Intn(n+3)-1)
	}
}

// tied tells whether two unlike journals of the Seq that counts have as many.
func tied(l []api.Copy) bool {
	top := topOf(l)
	return top >= 0 && slices.ContainsFunc(l, func(c api.Copy) bool {
		return hasJournal(c) && !bytes.Equal(c.B, l[top].B) && !passes(l, l[top], c)
	})
}

// TestOrderOfDrives (P9.3): which one counts hangs on no order, as long as there is no tie; Has goes with the drives.
func TestOrderOfDrives(t *testing.T) {
	r := rand.New(rand.NewSource(93))
	asked := 0
	for range 3000 {
		l := drawn(r, 1+r.Intn(maxDrives))
		if tied(l) {
			continue
		}
		asked++
		k := 1 + r.Intn(len(l))
		c, err := tally.Elect(l, k)
		wanted := level(c)
		mixed := make([]api.Copy, len(l))
		for to, from := range r.Perm(len(l)) {
			mixed[to] = l[from]
			if err == api.OK {
				wanted.Has[to] = c.Has[from]
			}
		}
		wantChoice(t, "another order", mixed, k, wanted, err)
	}
	if asked < 1000 {
		t.Errorf("only %d lists were asked", asked)
	}
}

// TestKSuffice (P9.3): what k drives have counts, if none has a newer one, or another one of its Seq that as many have, whatever the others answer.
func TestKSuffice(t *testing.T) {
	r := rand.New(rand.NewSource(94))
	top := has(7, 1)
	for range 3000 {
		n := 1 + r.Intn(maxDrives)
		k := 1 + r.Intn(n)
		l := times(k, top)
		others := 0
		for len(l) < n {
			c := drawn(r, 1)[0]
			// Fewer than k have another one of its Seq.
			if r.Intn(3) == 0 && others < k-1 {
				c = has(7, 2)
				others++
			}
			if r.Intn(4) == 0 {
				c = beside(api.ErrOffline, has(8, 1))
			}
			l = append(l, c)
		}
		r.Shuffle(n, func(i, j int) { l[i], l[j] = l[j], l[i] })
		var places []int
		for i, c := range l {
			if hasJournal(c) && bytes.Equal(c.B, top.B) {
				places = append(places, i)
			}
		}
		wantTop(t, "k have it", l, k, places[0], places...)
	}
}

// TestSomeDriveHasIt (P9.3): a journal that counts is one that some drive has.
func TestSomeDriveHasIt(t *testing.T) {
	r := rand.New(rand.NewSource(95))
	for range 2000 {
		l := drawn(r, 1+r.Intn(maxDrives))
		c, err := tally.Elect(l, 1)
		if err != api.OK {
			continue
		}
		if c.Found != slices.ContainsFunc(l, hasJournal) || c.Found && votesOf(l, c.B) == 0 {
			t.Errorf("no drive has it: Elect(%s, 1): %s", shown(l), short(c))
		}
		n := 0
		for i, x := range l {
			if c.Has[i] {
				n++
				if x.Err != api.OK || !bytes.Equal(x.B, c.B) {
					t.Errorf("drive %d does not have it: Elect(%s, 1): %s", i, shown(l), short(c))
				}
			}
		}
		if n != c.Votes || len(c.Has) != len(l) {
			t.Errorf("votes: Elect(%s, 1): %s", shown(l), short(c))
		}
	}
}

// TestAskedAgain: what is asked once more is answered alike.
func TestAskedAgain(t *testing.T) {
	r := rand.New(rand.NewSource(96))
	for range 50 {
		l := drawn(r, maxDrives)
		first, err := tally.Elect(l, 3)
		for range 20 {
			wantChoice(t, "once more", l, 3, first, err)
		}
	}
}
