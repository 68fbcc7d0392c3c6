package format_test

import (
	"fmt"
	"math"
	"math/rand"
	"slices"
	"strings"
	"testing"

	"stowage/api"
	"stowage/format"
)

// shapeMayBe tells whether there are formats of k, m and sets.
func shapeMayBe(k, m, sets int) bool { return slices.Contains(shapes(), [3]int{k, m, sets}) }

// modelAll tells what the chapter says, of the list of all shapes.
func modelAll(k, m, sets int) ([]api.Format, api.Errno) {
	if !shapeMayBe(k, m, sets) {
		return nil, api.ErrArg
	}
	var all []api.Format
	for _, n := range formats(k, m, sets) {
		all = append(all, of(n))
	}
	return all, api.OK
}

// modelState tells what the chapter says of the drive of a place.
func modelState(c api.Copy, place numbers, may map[numbers]bool) int {
	if c.Err != api.OK && c.Err != api.ErrMissing {
		return 4
	}
	n, err := modelRead(c.B, may)
	if c.Err == api.ErrMissing || err != api.OK {
		return 1
	}
	if n == place {
		return 2
	}
	return 3
}

func modelJudge(l []api.Copy, k, m, sets int, may map[numbers]bool) ([]int, api.Errno) {
	if !shapeMayBe(k, m, sets) || len(l) != sets*(k+m) {
		return nil, api.ErrArg
	}
	var states []int
	for i, place := range formats(k, m, sets) {
		states = append(states, modelState(l[i], place, may))
	}
	return states, api.OK
}

// owns are what drives answer that have the formats of their places.
func owns(k, m, sets int) []api.Copy {
	var l []api.Copy
	for _, n := range formats(k, m, sets) {
		l = append(l, api.Copy{B: written(n)})
	}
	return l
}

// shown is a line for what drives answer.
func shown(l []api.Copy) string {
	var all []string
	for _, c := range l {
		all = append(all, fmt.Sprintf("%d:%v", c.Err, c.B[:min(len(c.B), headLen)]))
	}
	s := strings.Join(all, " ")
	return s[:min(len(s), 400)]
}

func wantAll(t *testing.T, k, m, sets int, wanted []api.Format, wantedErr api.Errno) {
	t.Helper()
	if l, err := format.All(k, m, sets); !slices.Equal(l, wanted) || err != wantedErr {
		t.Errorf("All(%d, %d, %d): %v, %d; want %v, %d", k, m, sets, l, err, wanted, wantedErr)
	}
}

func wantJudge(t *testing.T, what string, l []api.Copy, s [3]int, wanted []int, wantedErr api.Errno) {
	t.Helper()
	if states, err := format.Judge(l, s[0], s[1], s[2]); !slices.Equal(states, wanted) || err != wantedErr {
		t.Errorf("%s: Judge(%s, %v): %v, %d; want %v, %d", what, shown(l), s, states, err, wanted, wantedErr)
	}
}

// wantStates asks whether all drives but some have their own, and these are in one state.
func wantStates(t *testing.T, what string, l []api.Copy, s [3]int, state int, at ...int) {
	t.Helper()
	wanted := slices.Repeat([]int{2}, s[2]*(s[0]+s[1]))
	for _, i := range at {
		wanted[i] = state
	}
	wantJudge(t, what, l, s, wanted, api.OK)
}

// someShapes are of the least and the greatest numbers, and of some between.
func someShapes() [][3]int {
	return [][3]int{{1, 1, 1}, {2, 1, 2}, {1, 2, 2}, {3, 2, 1}, {1, 1, 4}, {15, 1, 1}, {1, 15, 2}, {8, 8, 4}}
}

// badShapes are k, m and sets of which there are no formats.
func badShapes() [][3]int {
	var all [][3]int
	for _, s := range someShapes() {
		for i := range s {
			for _, v := range append(greatNumbers(), -2, -1, 0, 5, 16, 17) {
				bad := s
				bad[i] = v
				if !shapeMayBe(bad[0], bad[1], bad[2]) {
					all = append(all, bad)
				}
			}
		}
	}
	return append(all, [3]int{}, [3]int{8, 9, 1}, [3]int{0, 16, 1}, [3]int{16, 0, 1}, [3]int{-1, 2, 1}, [3]int{2, -1, 1}, [3]int{-1, -1, -1}, [3]int{math.MaxInt, math.MaxInt, 1}, [3]int{math.MinInt, math.MinInt, 4})
}

// litter is what a drive may have that is read as no format.
func litter(n numbers) map[string][]byte {
	whole := written(n)
	turned := slices.Clone(whole)
	turned[7] ^= 1
	digestTurned := slices.Clone(whole)
	digestTurned[39] ^= 128
	otherSign := slices.Clone(whole)
	otherSign[2] = '2'
	behind := n
	behind[4] = n[0] + n[1]
	return map[string][]byte{
		"none": nil, "empty": {}, "39 bytes": whole[:39], "41 bytes": append(slices.Clone(whole), 0), "noughts": make([]byte, 40), "text": []byte("boot"),
		"a number is turned": turned, "the digest is turned": digestTurned, "another beginning": signed(otherSign[:headLen]), "one that may not be": written(behind),
	}
}

// P14.2

// TestExamplesOfJudge: those of the chapter.
func TestExamplesOfJudge(t *testing.T) {
	s := [3]int{2, 1, 2}
	wantJudge(t, "all own", owns(2, 1, 2), s, []int{2, 2, 2, 2, 2, 2}, api.OK)
	l := owns(2, 1, 2)
	l[0], l[1] = l[1], l[0]
	wantJudge(t, "exchanged", l, s, []int{3, 3, 2, 2, 2, 2}, api.OK)
	l = owns(2, 1, 2)
	l[4], l[5] = api.Copy{Err: api.ErrOffline}, api.Copy{Err: api.ErrMissing}
	wantJudge(t, "missing, offline", l, s, []int{2, 2, 2, 2, 4, 1}, api.OK)
	for _, s := range [][3]int{{0, 1, 1}, {8, 9, 1}, {1, 1, 5}} {
		wantAll(t, s[0], s[1], s[2], nil, api.ErrArg)
	}
}

// TestStates: their numbers are those of the chapter.
func TestStates(t *testing.T) {
	if api.Fresh != 1 || api.Own != 2 || api.Strange != 3 || api.Silent != 4 {
		t.Error("the states have other numbers")
	}
}

// TestAllByHand: set by set, drive by drive.
func TestAllByHand(t *testing.T) {
	wantAll(t, 1, 1, 1, []api.Format{{K: 1, M: 1, Sets: 1}, {K: 1, M: 1, Sets: 1, Drive: 1}}, api.OK)
	wantAll(t, 2, 1, 2, []api.Format{
		{K: 2, M: 1, Sets: 2, Set: 0, Drive: 0}, {K: 2, M: 1, Sets: 2, Set: 0, Drive: 1}, {K: 2, M: 1, Sets: 2, Set: 0, Drive: 2},
		{K: 2, M: 1, Sets: 2, Set: 1, Drive: 0}, {K: 2, M: 1, Sets: 2, Set: 1, Drive: 1}, {K: 2, M: 1, Sets: 2, Set: 1, Drive: 2},
	}, api.OK)
}

// TestAllOfEachShape: there are as many as drives, in their order; each of them may be, and tells where it stands.
func TestAllOfEachShape(t *testing.T) {
	for _, s := range shapes() {
		k, m, sets := s[0], s[1], s[2]
		wanted, err := modelAll(k, m, sets)
		wantAll(t, k, m, sets, wanted, err)
		l, _ := format.All(k, m, sets)
		if len(l) != sets*(k+m) {
			t.Errorf("All(%d, %d, %d): %d of them", k, m, sets, len(l))
		}
		for i, f := range l {
			if f.K != k || f.M != m || f.Sets != sets || f.Set*(k+m)+f.Drive != i || f.Drive >= k+m || format.Check(f) != api.OK {
				t.Errorf("All(%d, %d, %d): %v at %d", k, m, sets, f, i)
			}
		}
	}
}

// TestAllAroundShapes: every choice of k, m and sets around those that may be, and far from them.
func TestAllAroundShapes(t *testing.T) {
	for k := -2; k <= 18; k++ {
		for m := -2; m <= 18; m++ {
			for sets := -2; sets <= 6; sets++ {
				wanted, err := modelAll(k, m, sets)
				wantAll(t, k, m, sets, wanted, err)
			}
		}
	}
	for _, s := range badShapes() {
		wantAll(t, s[0], s[1], s[2], nil, api.ErrArg)
	}
	for _, k := range greatNumbers() {
		for _, m := range greatNumbers() {
			for _, sets := range []int{1, 4, 0, 5, k, m, math.MinInt, math.MaxInt} {
				wantAll(t, k, m, sets, nil, api.ErrArg)
			}
		}
	}
}

// TestJudgeHowMany: there are as many copies as drives, neither more nor fewer.
func TestJudgeHowMany(t *testing.T) {
	for _, s := range shapes() {
		l := owns(s[0], s[1], s[2])
		n := len(l)
		wantStates(t, "as many", l, s, 0)
		wantJudge(t, "none", nil, s, nil, api.ErrArg)
		wantJudge(t, "none", []api.Copy{}, s, nil, api.ErrArg)
		wantJudge(t, "one too few", l[:n-1], s, nil, api.ErrArg)
		wantJudge(t, "one too few", l[1:], s, nil, api.ErrArg)
		wantJudge(t, "one too many", slices.Concat(l, l[:1]), s, nil, api.ErrArg)
		wantJudge(t, "one too many, missing", slices.Concat(l, []api.Copy{{Err: api.ErrMissing}}), s, nil, api.ErrArg)
		wantJudge(t, "twice as many", slices.Concat(l, l), s, nil, api.ErrArg)
		wantJudge(t, "256 more", slices.Concat(l, make([]api.Copy, 256)), s, nil, api.ErrArg)
		if s[2] > 1 {
			wantJudge(t, "those of one set", l[:s[0]+s[1]], s, nil, api.ErrArg)
		}
	}
}

// TestJudgeOfNoShape: with k, m and sets of which there are no formats, whatever copies there are.
func TestJudgeOfNoShape(t *testing.T) {
	lists := [][]api.Copy{nil, {}, owns(1, 1, 1), owns(2, 1, 2), owns(8, 8, 4), make([]api.Copy, 3), make([]api.Copy, 17), make([]api.Copy, 80)}
	for _, s := range badShapes() {
		for _, l := range lists {
			wantJudge(t, "no formats", l, s, nil, api.ErrArg)
		}
		// As many as there would be, were k and m cut to fewer bits.
		if n := s[2] * (s[0] + s[1]); 0 <= n && n <= 1000 {
			wantJudge(t, "as many", make([]api.Copy, n), s, nil, api.ErrArg)
		}
	}
}

// TestJudgeOfErrors: of one drive that answers each error, without bytes, with its own ones beside it, and with others.
func TestJudgeOfErrors(t *testing.T) {
	errs := []api.Errno{-1, 16, 17, 99, 100, 110, 160, 169, 240, 1000, math.MaxInt, math.MinInt, 1 << 32, 1<<32 + 6, 256, 256 + 6}
	for err := api.ErrNil; err <= api.ErrMark; err++ {
		errs = append(errs, err)
	}
	for _, s := range someShapes() {
		places := formats(s[0], s[1], s[2])
		for at, n := range places {
			other := written(places[(at+1)%len(places)])
			for _, b := range [][]byte{nil, {}, written(n), other, written(n)[:39]} {
				for _, err := range errs {
					l := owns(s[0], s[1], s[2])
					l[at] = api.Copy{Err: err, B: b}
					wanted := 4
					if err == api.ErrMissing {
						wanted = 1
					}
					wantStates(t, fmt.Sprint("error ", int(err)), l, s, wanted, at)
				}
			}
		}
	}
}

// TestJudgeOfLitter: of one drive, and of all, that have what is read as no format.
func TestJudgeOfLitter(t *testing.T) {
	for _, s := range someShapes() {
		places := formats(s[0], s[1], s[2])
		all := map[string][]api.Copy{}
		for at, n := range places {
			for what, b := range litter(n) {
				l := owns(s[0], s[1], s[2])
				l[at] = api.Copy{B: b}
				wantStates(t, what, l, s, 1, at)
				l[at] = api.Copy{B: b, Err: api.ErrMissing}
				wantStates(t, what, l, s, 1, at)
				l[at] = api.Copy{B: b, Err: api.ErrBroken}
				wantStates(t, what, l, s, 4, at)
				all[what] = append(all[what], api.Copy{B: b})
			}
		}
		for what, l := range all {
			wantJudge(t, what, l, s, slices.Repeat([]int{1}, len(places)), api.OK)
		}
	}
}

// TestJudgeOfOthers: of one drive that has each format but that of its place, also of another k, m or sets.
func TestJudgeOfOthers(t *testing.T) {
	for _, s := range [][3]int{{1, 1, 1}, {2, 1, 2}, {1, 2, 2}, {3, 2, 1}, {2, 3, 1}, {1, 1, 4}} {
		for at, own := range formats(s[0], s[1], s[2]) {
			l := owns(s[0], s[1], s[2])
			for _, n := range everyFormat() {
				if n == own || n[0]+n[1] > 7 {
					continue
				}
				l[at] = api.Copy{B: written(n)}
				wantStates(t, fmt.Sprint("another one ", n), l, s, 3, at)
			}
		}
	}
}

// TestJudgeOfOneNumber: each number by itself makes a format another one.
func TestJudgeOfOneNumber(t *testing.T) {
	own := numbers{3, 2, 3, 1, 2}
	at := own[3]*(own[0]+own[1]) + own[4]
	s := [3]int{own[0], own[1], own[2]}
	for i := range own {
		for _, by := range []int{-1, 1} {
			other := own
			other[i] += by
			l := owns(s[0], s[1], s[2])
			l[at] = api.Copy{B: written(other)}
			wantStates(t, fmt.Sprint("another one ", other), l, s, 3, at)
		}
	}
}

// TestJudgeByPlace: each drive is told of at its own place, all four states beside one another.
func TestJudgeByPlace(t *testing.T) {
	l := owns(2, 2, 1)
	l[0], l[1], l[2] = api.Copy{Err: api.ErrOffline}, api.Copy{Err: api.ErrMissing}, l[1]
	wantJudge(t, "all states", l, [3]int{2, 2, 1}, []int{4, 1, 3, 2}, api.OK)
	l = []api.Copy{l[3], l[2], l[1], l[0]}
	wantJudge(t, "the other way round", l, [3]int{2, 2, 1}, []int{3, 2, 1, 4}, api.OK)
	wantJudge(t, "zero values", make([]api.Copy, 4), [3]int{2, 2, 1}, []int{1, 1, 1, 1}, api.OK)
}

// TestJudgeDrawn: drives of all kinds hold against the model.
func TestJudgeDrawn(t *testing.T) {
	may := known()
	every := everyFormat()
	r := rand.New(rand.NewSource(143))
	for range 6000 {
		s := shapes()[r.Intn(len(shapes()))]
		if r.Intn(2) == 0 {
			s = someShapes()[r.Intn(4)]
		}
		l := owns(s[0], s[1], s[2])
		for range r.Intn(6) {
			spoil(r, l, every)
		}
		if r.Intn(10) == 0 {
			l = l[:r.Intn(len(l))]
		}
		wanted, err := modelJudge(l, s[0], s[1], s[2], may)
		wantJudge(t, "drawn", l, s, wanted, err)
		wantJudge(t, "drawn, once more", l, s, wanted, err)
	}
}

// spoil makes what a drive answers another thing.
func spoil(r *rand.Rand, l []api.Copy, every []numbers) {
	i, j := r.Intn(len(l)), r.Intn(len(l))
	switch r.Intn(6) {
	case 0:
		l[i], l[j] = l[j], l[i]
	case 1:
		l[i].Err = api.Errno(r.Intn(16))
	case 2:
		l[i].B = written(every[r.Intn(len(every))])
	case 3:
		l[i].B = slices.Clone(l[i].B)
		if len(l[i].B) > 0 {
			l[i].B[r.Intn(len(l[i].B))] ^= byte(1 + r.Intn(255))
		}
	case 4:
		l[i].B = l[i].B[:r.Intn(len(l[i].B)+1)]
	default:
		l[i].B = l[j].B
	}
}

// P14.3

// TestOwnOfEachShape: drives that have the formats of their places, as All and Bytes tell them, are all Own.
func TestOwnOfEachShape(t *testing.T) {
	for _, s := range shapes() {
		all, _ := format.All(s[0], s[1], s[2])
		var l []api.Copy
		for _, f := range all {
			b, err := format.Bytes(f)
			l = append(l, api.Copy{Err: err, B: b})
		}
		wantStates(t, "own", l, s, 0)
	}
}

// TestExchanged: of each two drives that are exchanged both are Strange, and no other one is.
func TestExchanged(t *testing.T) {
	for _, s := range someShapes() {
		l := owns(s[0], s[1], s[2])
		for i := range l {
			for j := range i {
				l[i], l[j] = l[j], l[i]
				wantStates(t, "exchanged", l, s, 3, i, j)
				l[i], l[j] = l[j], l[i]
			}
		}
		// Each one a place further: none is where it belongs.
		turned := slices.Concat(l[1:], l[:1])
		wantJudge(t, "all moved", turned, s, slices.Repeat([]int{3}, len(l)), api.OK)
	}
}

// TestTurnedDrives: a drive of whose format a byte is turned is Fresh, each byte by itself.
func TestTurnedDrives(t *testing.T) {
	s := [3]int{2, 1, 2}
	for at := range 6 {
		for i := range size {
			for by := 1; by < 256; by++ {
				l := owns(2, 1, 2)
				l[at].B[i] ^= byte(by)
				wantStates(t, fmt.Sprintf("byte %d is turned", i), l, s, 1, at)
			}
		}
	}
}
