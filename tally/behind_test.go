package tally_test

import (
	"math/rand"
	"slices"
	"testing"

	"stowage/api"
	"stowage/tally"
)

func wantBehind(t *testing.T, what string, l []api.Copy, c api.Choice, wanted []bool, wantedErr api.Errno) {
	t.Helper()
	if got, err := tally.Behind(l, c); !slices.Equal(got, wanted) || err != wantedErr {
		t.Errorf("%s: Behind(%s, Found %v, Has %v): %v, %d; want %v, %d", what, shown(l), c.Found, c.Has, got, err, wanted, wantedErr)
	}
}

// askBehind holds Behind against the model.
func askBehind(t *testing.T, what string, l []api.Copy, c api.Choice) {
	t.Helper()
	wanted, wantedErr := modelBehind(l, c)
	wantBehind(t, what, l, c, wanted, wantedErr)
}

// every and no are as many of a bool.
func every(n int) []bool { return slices.Repeat([]bool{true}, n) }

func no(n int) []bool { return make([]bool, n) }

// TestBehindHowMany: there are at most 16 copies, and Has has as many.
func TestBehindHowMany(t *testing.T) {
	for _, n := range []int{0, 1, 2, 15, 16, 17, 18, 32, 256, 272, 5000} {
		for _, has := range []int{0, 1, n - 1, n, n + 1, n + 2, 15, 16, 17, 2 * n, n + 256} {
			for _, found := range []bool{false, true} {
				l := times(n, says(api.ErrMissing))
				switch {
				case has < 0:
				case n > maxDrives || has != n:
					wantBehind(t, "not as many", l, api.Choice{Found: found, Has: no(has)}, nil, api.ErrArg)
					wantBehind(t, "not as many", l, api.Choice{Found: found, Has: every(has)}, nil, api.ErrArg)
				case found:
					wantBehind(t, "as many", l, api.Choice{Found: true, Has: no(n)}, every(n), api.OK)
					wantBehind(t, "as many", l, api.Choice{Found: true, Has: every(n)}, no(n), api.OK)
				default:
					wantBehind(t, "not found", l, api.Choice{Has: no(n)}, no(n), api.OK)
					wantBehind(t, "not found", l, api.Choice{Has: every(n)}, no(n), api.OK)
				}
			}
		}
	}
	wantBehind(t, "no copies", nil, api.Choice{}, nil, api.OK)
	wantBehind(t, "no copies", []api.Copy{}, api.Choice{Found: true, Has: []bool{}}, nil, api.OK)
	wantBehind(t, "a copy and no Has", make([]api.Copy, 1), api.Choice{Found: true}, nil, api.ErrArg)
	wantBehind(t, "a Has and no copy", nil, api.Choice{Found: true, Has: no(1)}, nil, api.ErrArg)
}

// TestBehindByHand: Has alone says who has it, whatever bytes the copies have, and whatever else the choice tells.
func TestBehindByHand(t *testing.T) {
	a := has(5, 1)
	whole, _ := tally.Elect([]api.Copy{a, a}, 1)
	for _, c := range []api.Choice{whole, {}, {J: whole.J, Answers: -1, Votes: 9}, {B: a.B, Votes: -9, Answers: 100}} {
		for _, copies := range [][2]api.Copy{{a, a}, {a, {}}, {{}, says(api.ErrMissing)}, {beside(api.ErrMissing, a), turned(a, 9, 1)}} {
			for which := range 8 {
				c.Found, c.Has = which&4 > 0, []bool{which&1 > 0, which&2 > 0}
				wanted := []bool{c.Found && !c.Has[0], c.Found && !c.Has[1]}
				wantBehind(t, "by hand", copies[:], c, wanted, api.OK)
			}
		}
	}
}

// TestBehindOfWhoDoesNotAnswer: such a drive is not behind, whatever Has says, nor whatever bytes it has.
func TestBehindOfWhoDoesNotAnswer(t *testing.T) {
	for _, err := range silent() {
		for _, away := range []api.Copy{says(err), beside(err, has(5, 1)), beside(err, has(4, 1))} {
			for _, has := range []bool{false, true} {
				l := []api.Copy{says(api.ErrMissing), away, {}}
				wantBehind(t, "away", l, api.Choice{Found: true, Has: []bool{false, has, false}}, []bool{true, false, true}, api.OK)
				wantBehind(t, "away", l, api.Choice{Found: false, Has: []bool{false, has, false}}, no(3), api.OK)
			}
		}
	}
}

// TestBehindOfChoices: of a choice that was elected those are behind that answer and have another journal, or none.
func TestBehindOfChoices(t *testing.T) {
	a, b := has(5, 1), has(5, 2)
	l := []api.Copy{a, b, has(4, 1), a, turned(a, 3, 1), says(api.ErrMissing), says(api.ErrOffline), {}, beside(api.ErrMissing, a), beside(api.ErrBroken, a)}
	c, _ := tally.Elect(l, 3)
	wantBehind(t, "all kinds", l, c, []bool{false, true, true, false, true, true, false, true, true, false}, api.OK)
	for what, bytes := range noJournals() {
		l := []api.Copy{{B: bytes}, a, {B: bytes}}
		c, _ := tally.Elect(l, 3)
		wantBehind(t, what, l, c, []bool{true, false, true}, api.OK)
		l[1] = api.Copy{B: bytes}
		c, _ = tally.Elect(l, 3)
		wantBehind(t, what, l, c, no(3), api.OK)
	}
}

// TestBehindOfOtherDrives: a choice may be told of drives that have changed since.
func TestBehindOfOtherDrives(t *testing.T) {
	a := has(5, 1)
	c, _ := tally.Elect([]api.Copy{a, says(api.ErrOffline), has(4, 1)}, 1)
	wantBehind(t, "back", []api.Copy{a, has(4, 1), has(4, 1)}, c, []bool{false, true, true}, api.OK)
	wantBehind(t, "gone", []api.Copy{says(api.ErrOffline), a, says(api.ErrBroken)}, c, []bool{false, true, false}, api.OK)
}

func TestBehindDrawn(t *testing.T) {
	r := rand.New(rand.NewSource(97))
	for range 3000 {
		l := drawn(r, r.Intn(maxDrives+2))
		has := no(max(0, len(l)+r.Intn(5)/4-r.Intn(5)/4))
		for i := range has {
			has[i] = r.Intn(2) == 0
		}
		askBehind(t, "drawn", l, api.Choice{Found: r.Intn(4) > 0, Has: has, Votes: r.Intn(9)})
	}
}
