package shard_test

import (
	"fmt"
	"math/bits"
	"math/rand"
	"slices"
	"testing"

	"stowage/api"
	"stowage/shard"
)

// P11.3

// TestMendIsLaid: the files are just those of Lay, in order, of all and of those that suffice.
func TestMendIsLaid(t *testing.T) {
	for _, p := range pairs(maxDrives) {
		for _, n := range []int{0, 1, 16, 17, 100} {
			v := drawnVersion(31, n, p[0], p[1])
			laid, err := shard.Lay(v.b, p[0], p[1])
			if err != api.OK || !sameLists(laid, v.files()) {
				t.Fatal(p, n, err)
			}
			wantMend(t, "all well", v.l, v.r, laid, v.states(1), api.OK)
			l, states := slices.Clone(v.l), v.states(1)
			for i := range p[1] {
				l[i], states[i] = api.Copy{Err: api.ErrMissing}, 2
			}
			wantMend(t, "of the last", l, v.r, laid, states, api.OK)
		}
	}
}

// TestMendEachState: each thing that may become of a file, at each place, with all others well.
func TestMendEachState(t *testing.T) {
	for _, p := range [][2]int{{1, 1}, {2, 1}, {1, 2}, {3, 2}, {5, 4}, {15, 1}, {1, 15}} {
		v := drawnVersion(32, 270*p[0]-1, p[0], p[1])
		for at := range v.l {
			for what, s := range spoiled(v.l[at].B) {
				wantMend(t, what, v.with(at, s.c), v.r, v.files(), v.states(s.state, at), api.OK)
			}
		}
	}
}

// TestMendEachError: ErrMissing is Gone, any other one Away, whatever bytes stand beside it.
func TestMendEachError(t *testing.T) {
	v := drawnVersion(33, 50, 3, 2)
	for _, err := range allErrors() {
		state := 4
		if err == api.ErrMissing {
			state = 2
		}
		for at := range v.l {
			for _, b := range [][]byte{nil, {}, v.l[at].B, v.l[(at+1)%5].B, []byte("other")} {
				wantMend(t, "an error", v.with(at, api.Copy{Err: err, B: b}), v.r, v.files(), v.states(state, at), api.OK)
			}
			l := v.with(at, api.Copy{Err: err})
			l[(at+2)%5] = api.Copy{Err: err, B: v.l[(at+2)%5].B}
			wantMend(t, "two errors", l, v.r, v.files(), v.states(state, at, (at+2)%5), api.OK)
		}
	}
}

// TestMendAllStates: each drive in each of its states at once, as far as K are well.
func TestMendAllStates(t *testing.T) {
	v := drawnVersion(34, 21, 2, 3)
	kinds := []api.Copy{1: {}, 2: {Err: api.ErrMissing}, 3: {B: []byte("other")}, 4: {Err: api.ErrOffline}}
	for number := range 1 << 10 {
		l, states, well := slices.Clone(v.l), v.states(1), 0
		for i := range l {
			state := number>>(2*i)&3 + 1
			if state == 1 {
				well++
				continue
			}
			l[i], states[i] = kinds[state], state
		}
		what := fmt.Sprint("states ", states)
		if well < 2 {
			wantError(t, what, l, v.r, api.ErrQuorum)
			continue
		}
		wantMend(t, what, l, v.r, v.files(), states, api.OK)
	}
}

// TestMendOfStale: a file that is sound but of other bytes is Bad behind the first K, and ahead makes the bytes another's.
func TestMendOfStale(t *testing.T) {
	v, other := drawnVersion(35, 900, 3, 2), drawnVersion(36, 900, 3, 2)
	for at := range v.l {
		l := v.with(at, other.l[at])
		if at < 3 {
			wantMend(t, "stale", l, v.r, nil, nil, api.ErrDigest)
			continue
		}
		wantMend(t, "stale", l, v.r, v.files(), v.states(3, at), api.OK)
		l[0] = api.Copy{Err: api.ErrMissing}
		ask(t, "stale, one gone", l, v.r)
	}
}

// TestMendOfMended: once the drives have the files that were told, all are well, and the same files are told.
func TestMendOfMended(t *testing.T) {
	r := rand.New(rand.NewSource(37))
	for range 300 {
		l, rec := drawnCase(r)
		files, states, err := shard.Mend(l, rec)
		if err != api.OK {
			continue
		}
		for i, file := range files {
			if states[i] != 1 {
				l[i] = api.Copy{B: file}
			}
		}
		all := slices.Repeat([]int{1}, len(l))
		wantMend(t, "mended", l, rec, files, all, api.OK)
	}
}

// P11.4

// TestAnyK: any K of the files tell the bytes, and all files, whatever became of the others.
func TestAnyK(t *testing.T) {
	for _, p := range pairs(8) {
		k, n := p[0], p[0]+p[1]
		v := drawnVersion(38, 3*k+1, k, p[1])
		for choice := range 1 << n {
			if bits.OnesCount(uint(choice)) != k {
				continue
			}
			for turn := range 4 {
				askAnyK(t, v, choice, turn)
			}
		}
	}
}

// TestAnyKOfMany: likewise, drawn choices of greater K and M, of lengths of several blocks.
func TestAnyKOfMany(t *testing.T) {
	r := rand.New(rand.NewSource(39))
	for _, p := range pairs(maxDrives) {
		k, n := p[0], p[0]+p[1]
		v := drawnVersion(40, 1+r.Intn(300*k), k, p[1])
		for turn := range 3 {
			choice := 0
			for _, i := range r.Perm(n)[:k] {
				choice |= 1 << i
			}
			askAnyK(t, v, choice, turn)
		}
	}
}

// askAnyK asks a version of which just the chosen files are left.
func askAnyK(t *testing.T, v version, choice, turn int) {
	t.Helper()
	l, states := slices.Clone(v.l), v.states(1)
	for _, i := range places(^choice, len(l)) {
		kinds := spoiled(v.l[i].B)
		s := kinds[names(kinds)[(5*turn+3*i+choice)%len(kinds)]]
		l[i], states[i] = s.c, s.state
	}
	what := fmt.Sprintf("any k: %b", choice)
	wantRead(t, what, l, v.r, v.b, api.OK)
	wantPart(t, what, l, v.r, 0, 1, v.b[:1], api.OK)
	wantMend(t, what, l, v.r, v.files(), states, api.OK)
	// One fewer does not.
	l[places(choice, len(l))[turn%v.r.K]] = api.Copy{Err: api.ErrMissing}
	wantError(t, what+", one fewer", l, v.r, api.ErrQuorum)
}

// TestLifeOfFiles: what Lay laid is read and mended through turns, losses and returns, as a plain copy of the bytes says (P8).
func TestLifeOfFiles(t *testing.T) {
	r := rand.New(rand.NewSource(41))
	for range 60 {
		k := 1 + r.Intn(6)
		m := 1 + r.Intn(6)
		v := versionOf(drawn(r, 1+r.Intn(2000)), k, m)
		files, _ := shard.Lay(v.b, k, m)
		var l []api.Copy
		for _, file := range files {
			l = append(l, api.Copy{B: file})
		}
		for range 20 {
			states := v.states(1)
			for range r.Intn(m + 1) {
				at := r.Intn(len(l))
				kinds := spoiled(files[at])
				s := kinds[names(kinds)[r.Intn(len(kinds))]]
				l[at], states[at] = s.c, s.state
			}
			// At most m are lost at a time.
			wantRead(t, "a life", l, v.r, v.b, api.OK)
			wantMend(t, "a life", l, v.r, files, states, api.OK)
			mended, _, _ := shard.Mend(l, v.r)
			for i, file := range mended {
				l[i] = api.Copy{B: file}
			}
		}
	}
}
