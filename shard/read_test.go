package shard_test

import (
	"crypto/sha256"
	"fmt"
	"math"
	"math/bits"
	"math/rand"
	"slices"
	"strings"
	"testing"

	"stowage/api"
	"stowage/record"
	"stowage/shard"
)

// P11.2

// wrongRecords are changes by which a record of abc may not be; K and M are left as they are, where they can be.
func wrongRecords() map[string]func(r *api.Record) {
	all := map[string]func(r *api.Record){
		"no ID":                  func(r *api.Record) { r.ID = "" },
		"the ID A":               func(r *api.Record) { r.ID = "A" },
		"an ID of 33":            func(r *api.Record) { r.ID = strings.Repeat("a", 33) },
		"no tag":                 func(r *api.Record) { r.ETag = "" },
		"the tag g":              func(r *api.Record) { r.ETag = "g" },
		"a tag of 41":            func(r *api.Record) { r.ETag = strings.Repeat("a", 41) },
		"no data name":           func(r *api.Record) { r.Data = "" },
		"a data name of 31":      func(r *api.Record) { r.Data = strings.Repeat("0", 31) },
		"a data name of 33":      func(r *api.Record) { r.Data = strings.Repeat("0", 33) },
		"a data name of g":       func(r *api.Record) { r.Data = strings.Repeat("g", 32) },
		"parts too small":        func(r *api.Record) { r.Parts = []api.PartSize{{Number: 1, Size: 2}} },
		"parts too great":        func(r *api.Record) { r.Parts = []api.PartSize{{Number: 1, Size: 4}} },
		"a part 0":               func(r *api.Record) { r.Parts = []api.PartSize{{Number: 0, Size: 3}} },
		"a part 10001":           func(r *api.Record) { r.Parts = []api.PartSize{{Number: 10001, Size: 3}} },
		"parts that do not rise": func(r *api.Record) { r.Parts = []api.PartSize{{Number: 2, Size: 1}, {Number: 2, Size: 2}} },
		"33 parts": func(r *api.Record) {
			r.Parts = []api.PartSize{{Number: 1, Size: 3}}
			for i := range 32 {
				r.Parts = append(r.Parts, api.PartSize{Number: i + 2})
			}
		},
		"an upload's ID A": func(r *api.Record) { r.Up = "A" },
		"nothing":          func(r *api.Record) { *r = api.Record{} },
		"a mark":           func(r *api.Record) { *r = api.Record{ID: "null", Mark: true} },
		"a mark with more": func(r *api.Record) { r.Mark = true },
		"a mark of K and M": func(r *api.Record) {
			*r = api.Record{ID: "null", Mark: true, K: r.K, M: r.M}
		},
	}
	for _, n := range []int{-1, -2, most + 1, 1 << 32, 1<<32 + 3, math.MinInt, math.MinInt32, math.MaxInt32, math.MaxInt} {
		all[fmt.Sprint("Size ", n)] = func(r *api.Record) { r.Size = n }
	}
	for _, n := range []int{-1, 1<<20 + 1, math.MinInt, math.MaxInt} {
		all[fmt.Sprint("Time ", n)] = func(r *api.Record) { r.Time = n }
	}
	for _, n := range []int{0, -1, -2, 16, 17, 1 << 32, math.MinInt, math.MaxInt, math.MaxInt - 1, math.MaxInt - 15} {
		all[fmt.Sprint("K ", n)] = func(r *api.Record) { r.K = n }
		all[fmt.Sprint("M ", n)] = func(r *api.Record) { r.M = n }
		all[fmt.Sprint("K beside 3 ", n)] = func(r *api.Record) { r.K, r.M = n, 3-n }
		all[fmt.Sprint("M beside 3 ", n)] = func(r *api.Record) { r.K, r.M = 3-n, n }
		all[fmt.Sprint("K and M ", n)] = func(r *api.Record) { r.K, r.M = n, n }
	}
	for k := 1; k <= 16; k++ {
		all[fmt.Sprint("K and M of 17, ", k)] = func(r *api.Record) { r.K, r.M = k, 17-k }
	}
	return all
}

// TestWrongRecords: no copies are looked at, however many there are and whatever they are.
func TestWrongRecords(t *testing.T) {
	v := abc()
	for what, change := range wrongRecords() {
		r := record.Copy(v.r)
		change(&r)
		for _, n := range []int{0, 1, 2, 3, 4, 15, 16, 17, 18} {
			l := slices.Repeat(v.l, 6)[:n]
			wantError(t, what, l, r, api.ErrArg)
			wantPart(t, what, l, r, -1, -2, nil, api.ErrArg)
			wantError(t, what, make([]api.Copy, n), r, api.ErrArg)
		}
		wantError(t, what, nil, r, api.ErrArg)
	}
}

// TestRecordsThatMayBe: what a record says beside its Size, K, M and Sum is no matter, as long as it may be.
func TestRecordsThatMayBe(t *testing.T) {
	v := abc()
	for what, change := range map[string]func(r *api.Record){
		"another ID":    func(r *api.Record) { r.ID = strings.Repeat("z", 32) },
		"the last time": func(r *api.Record) { r.Time = 1 << 20 },
		"a tag":         func(r *api.Record) { r.ETag = strings.Repeat("f", 37) + "-32" },
		"a data name":   func(r *api.Record) { r.Data = strings.Repeat("f", 32) },
		"a part":        func(r *api.Record) { r.Parts = []api.PartSize{{Number: 10000, Size: 3}} },
		"parts": func(r *api.Record) {
			r.Parts = []api.PartSize{{Number: 1, Size: 1}, {Number: 3, Size: 0}, {Number: 4, Size: 2}}
		},
		"no parts":       func(r *api.Record) { r.Parts = []api.PartSize{} },
		"of an upload":   func(r *api.Record) { r.Up = "up1" },
		"its own fields": func(r *api.Record) {},
	} {
		r := record.Copy(v.r)
		change(&r)
		wantRead(t, what, v.l, r, v.b, api.OK)
		wantPart(t, what, v.l, r, 0, 2, []byte("ab"), api.OK)
		wantMend(t, what, v.l, r, v.files(), []int{1, 1, 1}, api.OK)
	}
}

// TestHowManyCopies: just K + M, though fewer would suffice.
func TestHowManyCopies(t *testing.T) {
	for _, p := range pairs(maxDrives) {
		v := drawnVersion(1, 37, p[0], p[1])
		n := p[0] + p[1]
		wantRead(t, "as many", v.l, v.r, v.b, api.OK)
		for _, count := range []int{0, 1, p[0], n - 1, n + 1, n + 2, 2 * n, n + 16, n + 256} {
			if count == n {
				continue
			}
			l := slices.Repeat(v.l, count/n+1)[:count]
			wantError(t, "not as many", l, v.r, api.ErrArg)
			wantPart(t, "not as many", l, v.r, -1, 50, nil, api.ErrArg)
		}
		wantError(t, "nil", nil, v.r, api.ErrArg)
		wantError(t, "empty", []api.Copy{}, v.r, api.ErrArg)
	}
}

// TestAllSound: of all k and m, and lengths around what shards hold evenly.
func TestAllSound(t *testing.T) {
	for _, p := range pairs(maxDrives) {
		k := p[0]
		for _, n := range []int{0, 1, k - 1, k, k + 1, 3 * k, blockLen*k - 1, blockLen * k, blockLen*k + 1} {
			v := drawnVersion(int64(n), n, k, p[1])
			wantRead(t, "all sound", v.l, v.r, v.b, api.OK)
			wantPart(t, "all sound", v.l, v.r, n/3, n-n/4, v.b[n/3:n-n/4], api.OK)
			wantMend(t, "all sound", v.l, v.r, v.files(), v.states(1), api.OK)
		}
	}
}

// TestEveryChoice: each choice of which are sound, for small K and M: K of them suffice, K - 1 do not, whatever the others are.
func TestEveryChoice(t *testing.T) {
	for _, p := range pairs(7) {
		k, n := p[0], p[0]+p[1]
		v := drawnVersion(2, 5*k-1, k, p[1])
		for choice := range 1 << n {
			l, states := slices.Clone(v.l), v.states(1)
			for _, i := range places(^choice, n) {
				kinds := spoiled(v.l[i].B)
				s := kinds[names(kinds)[(choice+3*i)%len(kinds)]]
				l[i], states[i] = s.c, s.state
			}
			what := fmt.Sprintf("the choice %b", choice)
			if bits.OnesCount(uint(choice)) < k {
				wantError(t, what, l, v.r, api.ErrQuorum)
				continue
			}
			wantRead(t, what, l, v.r, v.b, api.OK)
			wantPart(t, what, l, v.r, 1, v.r.Size, v.b[1:], api.OK)
			wantMend(t, what, l, v.r, v.files(), states, api.OK)
		}
	}
}

// TestEachSpoil: one file short of K + M, by each thing that may become of it, at each place; and one short of K.
func TestEachSpoil(t *testing.T) {
	for _, p := range [][2]int{{1, 1}, {2, 1}, {1, 2}, {3, 2}, {8, 8}, {15, 1}} {
		k, n := p[0], p[0]+p[1]
		v := drawnVersion(3, 300*k, k, p[1])
		for at := range n {
			for what, s := range spoiled(v.l[at].B) {
				wantRead(t, what, v.with(at, s.c), v.r, v.b, api.OK)
				// Of the others just K - 1 are left.
				l, gone := v.with(at, s.c), 1
				for i := range n {
					if i != at && gone <= p[1] {
						l[i] = api.Copy{Err: api.ErrMissing}
						gone++
					}
				}
				wantError(t, what+", too few left", l, v.r, api.ErrQuorum)
			}
		}
	}
}

// TestBesideErrors: bytes that are right are none of the drive's beside any error.
func TestBesideErrors(t *testing.T) {
	v := abc()
	for _, err := range allErrors() {
		for at := range 3 {
			l := v.with(at, api.Copy{Err: err, B: v.l[at].B})
			wantRead(t, "beside an error", l, v.r, v.b, api.OK)
			l[(at+1)%3].Err = err
			wantError(t, "two beside an error", l, v.r, api.ErrQuorum)
		}
		l := slices.Clone(v.l)
		for i := range l {
			l[i].Err = err
		}
		wantError(t, "all beside an error", l, v.r, api.ErrQuorum)
	}
}

// TestTurned: a byte turned at each place of a file of several blocks; it is not sound then (P4).
func TestTurned(t *testing.T) {
	v := drawnVersion(4, 1100, 2, 1)
	for drive, c := range v.l {
		for at := range c.B {
			l := v.with(drive, api.Copy{B: turned(c.B, at, 1<<(at%8))})
			wantRead(t, "turned", l, v.r, v.b, api.OK)
			l[(drive+1)%3] = api.Copy{Err: api.ErrOffline}
			wantRead(t, "turned, and another one away", l, v.r, nil, api.ErrQuorum)
		}
	}
	for _, mask := range []byte{1, 2, 4, 8, 16, 32, 64, 128, 255} {
		l := v.with(0, api.Copy{B: turned(v.l[0].B, 600, mask)})
		wantMend(t, "turned", l, v.r, v.files(), []int{3, 1, 1}, api.OK)
	}
}

// TestLengthsOfFiles: each beginning of a file, and a file with more behind it, are not sound.
func TestLengthsOfFiles(t *testing.T) {
	v := drawnVersion(5, 1100, 2, 1)
	for drive, c := range v.l {
		away := v.with((drive+1)%3, api.Copy{Err: api.ErrOffline})
		for cut := range c.B {
			away[drive] = api.Copy{B: c.B[:cut]}
			wantRead(t, "cut off", away, v.r, nil, api.ErrQuorum)
		}
		for _, more := range []int{1, 31, 32, 33, 256, 288, 289} {
			away[drive] = api.Copy{B: slices.Concat(c.B, make([]byte, more))}
			wantError(t, "more behind", away, v.r, api.ErrQuorum)
			away[drive] = api.Copy{B: slices.Concat(c.B, fileOf(make([]byte, more)))}
			wantError(t, "a file behind", away, v.r, api.ErrQuorum)
		}
		away[drive] = c
		wantRead(t, "the whole file", away, v.r, v.b, api.OK)
	}
}

// TestOtherSizes: files of versions with one byte more or fewer a shard are not sound; of one with as many bytes a shard they are.
func TestOtherSizes(t *testing.T) {
	v := drawnVersion(6, 100, 2, 2)
	for _, size := range []int{0, 1, 97, 98, 101, 102, 200, 513} {
		other := drawnVersion(6, size, 2, 2)
		wantError(t, "of another size", other.l, v.r, api.ErrQuorum)
		for at := range 4 {
			l := v.with(at, other.l[at])
			wantRead(t, "one of another size", l, v.r, v.b, api.OK)
			wantMend(t, "one of another size", l, v.r, v.files(), v.states(3, at), api.OK)
		}
	}
	other := drawnVersion(7, 99, 2, 2)
	wantError(t, "of a size with as long shards", other.l, v.r, api.ErrDigest)
	// The digest is that of the bytes as the record counts them.
	r := v.r
	r.Size = 99
	wantError(t, "a Size less by one", v.l, r, api.ErrDigest)
	r.Sum = sha256.Sum256(v.b[:99])
	wantRead(t, "a Size less by one, with its Sum", v.l, r, v.b[:99], api.OK)
	r.Size, r.Sum = 98, sha256.Sum256(v.b[:98])
	wantError(t, "a Size whose shards are shorter", v.l, r, api.ErrQuorum)
}

// TestOtherVersion: sound files of another version are taken if they are among the first K, and then the digest tells it.
func TestOtherVersion(t *testing.T) {
	for _, p := range pairs(6) {
		k, n := p[0], p[0]+p[1]
		v, other := drawnVersion(8, 9*k, k, p[1]), drawnVersion(9, 9*k, k, p[1])
		for choice := 1; choice < 1<<n; choice++ {
			l := slices.Clone(v.l)
			for _, i := range places(choice, n) {
				l[i] = other.l[i]
			}
			what := fmt.Sprintf("another version's %b", choice)
			ask(t, what, l, v.r)
			ask(t, what, l, other.r)
			first := choice & (1<<k - 1)
			switch first {
			case 0:
				wantRead(t, what, l, v.r, v.b, api.OK)
				wantMend(t, what, l, v.r, v.files(), v.states(3, places(choice, n)...), api.OK)
				wantError(t, what, l, other.r, api.ErrDigest)
			case 1<<k - 1:
				wantRead(t, what, l, other.r, other.b, api.OK)
				wantError(t, what, l, v.r, api.ErrDigest)
			default:
				wantError(t, what, l, v.r, api.ErrDigest)
				wantError(t, what, l, other.r, api.ErrDigest)
			}
		}
	}
}

// TestFirstAreTaken: the first K that are sound, those ahead that are not being passed over, and no other.
func TestFirstAreTaken(t *testing.T) {
	for _, p := range pairs(7) {
		k, n := p[0], p[0]+p[1]
		v, other := drawnVersion(10, 4*k, k, p[1]), drawnVersion(11, 4*k, k, p[1])
		for choice := range 1 << n {
			if bits.OnesCount(uint(choice)) != k {
				continue
			}
			// The chosen ones are the version's, those ahead of the last of them not sound, those behind it another version's.
			l, states := slices.Clone(other.l), slices.Repeat([]int{3}, n)
			chosen := places(choice, n)
			for i := range chosen[k-1] {
				l[i], states[i] = api.Copy{Err: api.ErrMissing}, 2
			}
			for _, i := range chosen {
				l[i], states[i] = v.l[i], 1
			}
			what := fmt.Sprintf("the first %b", choice)
			wantRead(t, what, l, v.r, v.b, api.OK)
			wantMend(t, what, l, v.r, v.files(), states, api.OK)
			// One of another version among them is taken, too, though one more is sound behind it.
			for _, i := range chosen {
				was := l[i]
				l[i] = other.l[i]
				wantError(t, what+", one another version's", l, v.r, api.ErrDigest)
				l[i] = was
			}
		}
	}
}

// TestOtherDrives: files of another drive of the same version are sound, but at a wrong place.
func TestOtherDrives(t *testing.T) {
	for _, p := range [][2]int{{2, 1}, {2, 2}, {3, 2}, {4, 4}} {
		k, n := p[0], p[0]+p[1]
		v := drawnVersion(12, 11*k, k, p[1])
		for a := range n {
			for b := range n {
				if a == b {
					continue
				}
				l := v.with(a, v.l[b])
				ask(t, "of another drive", l, v.r)
				if a < k {
					wantError(t, "of another drive, ahead", l, v.r, api.ErrDigest)
				} else {
					wantRead(t, "of another drive, behind", l, v.r, v.b, api.OK)
					wantMend(t, "of another drive, behind", l, v.r, v.files(), v.states(3, a), api.OK)
				}
				l[b] = v.l[a]
				ask(t, "exchanged", l, v.r)
			}
		}
	}
}

// TestDigest: K files are sound, but Sum is another one, at each of its bytes.
func TestDigest(t *testing.T) {
	for _, v := range []version{abc(), drawnVersion(13, 0, 2, 1), drawnVersion(13, 1, 1, 1), drawnVersion(13, 5000, 5, 3)} {
		for at := range 32 {
			r := v.r
			r.Sum[at] ^= 1 << (at % 8)
			wantError(t, "another Sum", v.l, r, api.ErrDigest)
			wantError(t, "another Sum, one gone", v.with(0, api.Copy{Err: api.ErrMissing}), r, api.ErrDigest)
		}
		r := v.r
		r.Sum = api.Digest{}
		wantError(t, "no Sum", v.l, r, api.ErrDigest)
		r.Sum = sha256.Sum256([]byte("other"))
		wantError(t, "the Sum of other bytes", v.l, r, api.ErrDigest)
	}
}

// TestFilling: what fills the last shard up is none of the bytes; a file with other filling is sound, and no file of theirs.
func TestFilling(t *testing.T) {
	v := abc()
	filled := api.Copy{B: fileOf([]byte("cx"))}
	l := v.with(1, filled)
	wantRead(t, "other filling", l, v.r, v.b, api.OK)
	wantMend(t, "other filling", l, v.r, v.files(), []int{1, 3, 1}, api.OK)
	l[2] = api.Copy{Err: api.ErrMissing}
	wantRead(t, "other filling", l, v.r, v.b, api.OK)
	l = v.with(1, filled)
	l[0] = api.Copy{Err: api.ErrMissing}
	wantError(t, "other filling, of which others are made", l, v.r, api.ErrDigest)
}

// TestSizeNought: of no bytes each file is empty, and none has any other.
func TestSizeNought(t *testing.T) {
	for _, p := range pairs(maxDrives) {
		k, n := p[0], p[0]+p[1]
		v := versionOf(nil, k, p[1])
		wantRead(t, "none", v.l, v.r, nil, api.OK)
		wantPart(t, "none", v.l, v.r, 0, 0, nil, api.OK)
		wantPart(t, "none", v.l, v.r, 0, 1, nil, api.ErrRange)
		wantMend(t, "none", v.l, v.r, v.files(), v.states(1), api.OK)
		wantMend(t, "none, as nil", make([]api.Copy, n), v.r, make([][]byte, n), v.states(1), api.OK)
		for at := range n {
			for _, b := range [][]byte{{0}, make([]byte, 32), fileOf([]byte{0})} {
				l := v.with(at, api.Copy{B: b})
				wantMend(t, "none, but one has bytes", l, v.r, v.files(), v.states(3, at), api.OK)
			}
		}
		l := slices.Repeat([]api.Copy{{Err: api.ErrMissing}}, n)
		for i := range k - 1 {
			l[n-1-i] = api.Copy{}
		}
		wantError(t, "none, of too few", l, v.r, api.ErrQuorum)
		l[0] = api.Copy{B: []byte{0}}
		wantError(t, "none, and one has a byte", l, v.r, api.ErrQuorum)
		l[0] = api.Copy{}
		wantRead(t, "none, of enough", l, v.r, nil, api.OK)
	}
}

// TestGreatestSize: 65,536 bytes, of all and of the last ones.
func TestGreatestSize(t *testing.T) {
	for _, p := range [][2]int{{1, 1}, {1, 15}, {15, 1}, {8, 8}, {2, 1}, {3, 2}} {
		k := p[0]
		v := drawnVersion(14, most, k, p[1])
		wantRead(t, "the most", v.l, v.r, v.b, api.OK)
		l, states := slices.Clone(v.l), v.states(1)
		for i := range p[1] {
			l[i], states[i] = api.Copy{B: turned(v.l[i].B, len(v.l[i].B)-1-i, 1)}, 3
		}
		wantRead(t, "the most, of the last", l, v.r, v.b, api.OK)
		wantPart(t, "the most, of the last", l, v.r, most-1, most, v.b[most-1:], api.OK)
		wantPart(t, "the most, of the last", l, v.r, most, most, nil, api.OK)
		wantPart(t, "the most, of the last", l, v.r, 0, most, v.b, api.OK)
		wantPart(t, "the most, of the last", l, v.r, 0, most+1, nil, api.ErrRange)
		wantMend(t, "the most, of the last", l, v.r, v.files(), states, api.OK)
		l[len(l)-1] = api.Copy{Err: api.ErrOffline}
		wantError(t, "the most, of too few", l, v.r, api.ErrQuorum)
	}
}

// Part

// TestPartEachPair: all ends of a short version, and one beyond each of them.
func TestPartEachPair(t *testing.T) {
	for _, n := range []int{0, 1, 2, 3, 10, 17} {
		v := drawnVersion(15, n, 3, 2)
		for from := -2; from <= n+2; from++ {
			for to := -2; to <= n+2; to++ {
				if from < 0 || to < from || to > n {
					wantPart(t, "wrong ends", v.l, v.r, from, to, nil, api.ErrRange)
				} else {
					wantPart(t, "ends", v.l, v.r, from, to, v.b[from:to], api.OK)
				}
			}
		}
	}
}

// TestPartOfLong: parts around blocks and shards, of the first files and of the last ones.
func TestPartOfLong(t *testing.T) {
	v := drawnVersion(16, 2000, 3, 2)
	few := slices.Clone(v.l)
	few[0], few[1] = api.Copy{Err: api.ErrMissing}, api.Copy{Err: api.ErrOffline}
	ends := []int{0, 1, 255, 256, 257, 511, 512, 665, 666, 667, 668, 1333, 1334, 1335, 1999, 2000}
	for _, from := range ends {
		for _, to := range ends {
			b, err := modelPart(v.l, v.r, from, to)
			wantPart(t, "all", v.l, v.r, from, to, b, err)
			wantPart(t, "few", few, v.r, from, to, b, err)
		}
	}
}

// TestPartOfWildEnds: the least and the greatest numbers, in each of both places.
func TestPartOfWildEnds(t *testing.T) {
	v := abc()
	wild := []int{math.MinInt, math.MinInt + 1, math.MinInt32, -65536, -1, 0, 1, 2, 3, 4, 65536, 1 << 32, 1<<32 + 1, math.MaxInt32, math.MaxInt - 1, math.MaxInt}
	for _, from := range wild {
		for _, to := range wild {
			if from >= 0 && from <= to && to <= 3 {
				wantPart(t, "wild", v.l, v.r, from, to, v.b[from:to], api.OK)
			} else {
				wantPart(t, "wild", v.l, v.r, from, to, nil, api.ErrRange)
			}
		}
	}
}

// TestPartLooksAtAll: no bytes, or such as are not on a file that is turned, still need K files and Sum.
func TestPartLooksAtAll(t *testing.T) {
	v := drawnVersion(17, 3000, 2, 1)
	l := v.with(2, api.Copy{Err: api.ErrMissing})
	l[1] = api.Copy{B: turned(v.l[1].B, 1000, 1)}
	for _, ends := range [][2]int{{0, 0}, {0, 1}, {1, 1}, {1500, 1500}, {3000, 3000}, {0, 3000}} {
		wantPart(t, "a part of what is sound", l, v.r, ends[0], ends[1], nil, api.ErrQuorum)
		r := v.r
		r.Sum[31] ^= 128
		wantPart(t, "a part of bytes of another Sum", v.l, r, ends[0], ends[1], nil, api.ErrDigest)
	}
}

// TestOrderOfErrors: of several that apply the first one is told.
func TestOrderOfErrors(t *testing.T) {
	v := abc()
	few := []api.Copy{{Err: api.ErrMissing}, {Err: api.ErrOffline}, v.l[2]}
	wrong, otherSum := v.r, v.r
	wrong.ID, otherSum.Sum[0] = "A", v.r.Sum[0]^1
	mark := api.Record{ID: "null", Mark: true}
	for _, c := range []struct {
		what   string
		l      []api.Copy
		r      api.Record
		wanted api.Errno
	}{
		{"all is wrong", few[:2], wrong, api.ErrArg},
		{"the record and the files are wrong", few, wrong, api.ErrArg},
		{"a mark and too few", few, mark, api.ErrArg},
		{"a mark without copies", nil, mark, api.ErrArg},
		{"too few copies, all sound", v.l[:2], v.r, api.ErrArg},
		{"too few copies, another Sum", v.l[:2], otherSum, api.ErrArg},
		{"too many copies, too few sound", append(slices.Clone(few), few...), v.r, api.ErrArg},
		{"too few sound, another Sum", few, otherSum, api.ErrQuorum},
		{"too few sound", few, v.r, api.ErrQuorum},
		{"another Sum", v.l, otherSum, api.ErrDigest},
		{"another Sum, one gone", v.with(1, few[0]), otherSum, api.ErrDigest},
	} {
		wantError(t, c.what, c.l, c.r, c.wanted)
		for _, ends := range [][2]int{{-1, 1}, {2, 1}, {0, 4}, {math.MinInt, math.MaxInt}, {4, 4}, {math.MaxInt, math.MaxInt}} {
			wanted := api.ErrRange
			if c.wanted == api.ErrArg {
				wanted = api.ErrArg
			}
			wantPart(t, c.what+", and the ends", c.l, c.r, ends[0], ends[1], nil, wanted)
		}
		wantPart(t, c.what, c.l, c.r, 1, 3, nil, c.wanted)
	}
}

// TestDrawn holds drawn copies and records against the model.
func TestDrawn(t *testing.T) {
	r := rand.New(rand.NewSource(18))
	told := map[api.Errno]int{}
	for range 2000 {
		l, rec := drawnCase(r)
		ask(t, "drawn", l, rec)
		_, err := shard.Read(l, rec)
		told[err]++
	}
	for _, err := range []api.Errno{api.OK, api.ErrArg, api.ErrQuorum, api.ErrDigest} {
		if told[err] < 50 {
			t.Errorf("only %d drawn cases were answered with %d", told[err], err)
		}
	}
}

// drawnCase is a version of which drives have lost some, with a record that may be another one.
func drawnCase(r *rand.Rand) ([]api.Copy, api.Record) {
	k := 1 + r.Intn(15)
	m := 1 + r.Intn(16-k)
	size := r.Intn(40 * k)
	v, other := versionOf(drawn(r, size), k, m), versionOf(drawn(r, size), k, m)
	l := slices.Clone(v.l)
	for range r.Intn(m + 2) {
		at := r.Intn(len(l))
		switch {
		case size == 0:
			l[at].Err = api.Errno(r.Intn(16))
		case r.Intn(8) == 0:
			l[at] = other.l[at]
		default:
			kinds := spoiled(v.l[at].B)
			l[at] = kinds[names(kinds)[r.Intn(len(kinds))]].c
		}
	}
	switch r.Intn(12) {
	case 0:
		v.r.Sum[r.Intn(32)] ^= 4
	case 1:
		l = l[:r.Intn(len(l)+1)]
	case 2:
		v.r.K, v.r.M = v.r.K+r.Intn(3)-1, v.r.M+r.Intn(3)-1
	case 3:
		v.r.Size += r.Intn(5) - 2
	}
	return l, v.r
}
