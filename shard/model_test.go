package shard_test

import (
	"bytes"
	"crypto/sha256"
	"fmt"
	"math"
	"math/rand"
	"slices"
	"strings"
	"testing"

	"stowage/api"
	"stowage/record"
	"stowage/shard"
	"stowage/stripe"
)

const (
	blockLen  = 256
	digestLen = 32
	most      = 65536
	maxDrives = 16
)

// fileOf is the file of a shard, as the document says it.
func fileOf(b []byte) []byte {
	var file []byte
	for len(b) > 0 {
		first := b[:min(blockLen, len(b))]
		d := sha256.Sum256(first)
		file = append(append(file, d[:]...), first...)
		b = b[len(first):]
	}
	return file
}

// readAs tells what a file is read as, as so many bytes, and whether it can be.
func readAs(file []byte, n int) ([]byte, bool) {
	b := []byte{}
	for n > 0 {
		length := min(blockLen, n)
		if len(file) < digestLen+length {
			return nil, false
		}
		text := file[digestLen : digestLen+length]
		if sha256.Sum256(text) != [digestLen]byte(file[:digestLen]) {
			return nil, false
		}
		b, file, n = append(b, text...), file[digestLen+length:], n-length
	}
	return b, len(file) == 0
}

// filesOf are the shard files of bytes.
func filesOf(b []byte, k, m int) [][]byte {
	shards, err := stripe.Split(b, k, m)
	if err != api.OK {
		panic(err)
	}
	var files [][]byte
	for _, s := range shards {
		files = append(files, fileOf(s))
	}
	return files
}

// isSound tells what a drive's file is read as for a record, and whether it is sound.
func isSound(c api.Copy, r api.Record) ([]byte, bool) {
	length := r.Size / r.K
	if r.Size%r.K > 0 {
		length++
	}
	b, ok := readAs(c.B, length)
	return b, ok && c.Err == api.OK
}

// modelRead, modelPart and modelMend tell what the document says.
func modelRead(l []api.Copy, r api.Record) ([]byte, api.Errno) {
	if record.Check(r) != api.OK || r.Mark || len(l) != r.K+r.M {
		return nil, api.ErrArg
	}
	shards, have, count := make([][]byte, len(l)), make([]bool, len(l)), 0
	for i, c := range l {
		if b, ok := isSound(c, r); ok && count < r.K {
			shards[i], have[i] = b, true
			count++
		}
	}
	if count < r.K {
		return nil, api.ErrQuorum
	}
	b, err := stripe.Join(shards, have, r.K, r.M, r.Size)
	if err != api.OK {
		panic(err)
	}
	if sha256.Sum256(b) != r.Sum {
		return nil, api.ErrDigest
	}
	return b, api.OK
}

func modelPart(l []api.Copy, r api.Record, from, to int) ([]byte, api.Errno) {
	b, err := modelRead(l, r)
	switch {
	case err == api.ErrArg:
		return nil, err
	case from < 0 || to < from || to > r.Size:
		return nil, api.ErrRange
	case err != api.OK:
		return nil, err
	}
	return b[from:to], api.OK
}

func modelMend(l []api.Copy, r api.Record) ([][]byte, []int, api.Errno) {
	b, err := modelRead(l, r)
	if err != api.OK {
		return nil, nil, err
	}
	files := filesOf(b, r.K, r.M)
	var states []int
	for i, c := range l {
		states = append(states, modelState(c, files[i]))
	}
	return files, states, api.OK
}

func modelState(c api.Copy, file []byte) int {
	switch {
	case c.Err == api.OK && bytes.Equal(c.B, file):
		return 1
	case c.Err == api.OK:
		return 3
	case c.Err == api.ErrMissing:
		return 2
	}
	return 4
}

// shown is a line for copies and a record.
func shown(l []api.Copy, r api.Record) string {
	var all []string
	for _, c := range l[:min(len(l), 20)] {
		all = append(all, fmt.Sprintf("%d:%d bytes", c.Err, len(c.B)))
	}
	return fmt.Sprintf("%d copies (%s) of Size %d, K %d, M %d, ID %q, Mark %v", len(l), strings.Join(all, " "), r.Size, r.K, r.M, r.ID, r.Mark)
}

// short is bytes as a text that is not too long to be read.
func short(b []byte) string {
	return fmt.Sprintf("%d bytes %x", len(b), b[:min(len(b), 40)])
}

func sameLists(a, b [][]byte) bool { return slices.EqualFunc(a, b, bytes.Equal) }

// wantRead and the others ask for an answer, and for zero values beside an error.
func wantRead(t *testing.T, what string, l []api.Copy, r api.Record, wanted []byte, wantedErr api.Errno) {
	t.Helper()
	if b, err := shard.Read(l, r); !bytes.Equal(b, wanted) || err != wantedErr {
		t.Errorf("%s: Read of %s: %s, %d; want %s, %d", what, shown(l, r), short(b), err, short(wanted), wantedErr)
	}
}

func wantPart(t *testing.T, what string, l []api.Copy, r api.Record, from, to int, wanted []byte, wantedErr api.Errno) {
	t.Helper()
	if b, err := shard.Part(l, r, from, to); !bytes.Equal(b, wanted) || err != wantedErr {
		t.Errorf("%s: Part from %d to %d of %s: %s, %d; want %s, %d", what, from, to, shown(l, r), short(b), err, short(wanted), wantedErr)
	}
}

func wantMend(t *testing.T, what string, l []api.Copy, r api.Record, wanted [][]byte, wantedStates []int, wantedErr api.Errno) {
	t.Helper()
	files, states, err := shard.Mend(l, r)
	if !slices.Equal(states, wantedStates) || err != wantedErr {
		t.Errorf("%s: Mend of %s: states %v, %d; want %v, %d", what, shown(l, r), states, err, wantedStates, wantedErr)
	}
	if !sameLists(files, wanted) {
		t.Errorf("%s: Mend of %s: %d files, not those that were wanted", what, shown(l, r), len(files))
	}
}

// wantError asks all three for one error, with nothing beside it.
func wantError(t *testing.T, what string, l []api.Copy, r api.Record, wanted api.Errno) {
	t.Helper()
	wantRead(t, what, l, r, nil, wanted)
	wantPart(t, what, l, r, 0, 0, nil, wanted)
	wantMend(t, what, l, r, nil, nil, wanted)
}

// ask holds all three against the model.
func ask(t *testing.T, what string, l []api.Copy, r api.Record) {
	t.Helper()
	b, err := modelRead(l, r)
	wantRead(t, what, l, r, b, err)
	for _, ends := range [][2]int{{0, r.Size}, {r.Size / 3, r.Size / 2}, {1, r.Size}, {-1, 0}} {
		b, err := modelPart(l, r, ends[0], ends[1])
		wantPart(t, what, l, r, ends[0], ends[1], b, err)
	}
	files, states, err := modelMend(l, r)
	wantMend(t, what, l, r, files, states, err)
}

// version is bytes with their record and what drives that are all well have of them.
type version struct {
	b []byte
	r api.Record
	l []api.Copy
}

func versionOf(b []byte, k, m int) version {
	v := version{b: b, r: api.Record{ID: "null", Size: len(b), ETag: "0", K: k, M: m, Data: strings.Repeat("0", 32), Sum: sha256.Sum256(b)}}
	for _, file := range filesOf(b, k, m) {
		v.l = append(v.l, api.Copy{B: file})
	}
	return v
}

// files are those that the drives are to have.
func (v version) files() [][]byte {
	var all [][]byte
	for _, c := range v.l {
		all = append(all, c.B)
	}
	return all
}

// with is what drives have if one of them has another copy.
func (v version) with(at int, c api.Copy) []api.Copy {
	l := slices.Clone(v.l)
	l[at] = c
	return l
}

// states are those of drives that are all well, but for some.
func (v version) states(other int, at ...int) []int {
	all := slices.Repeat([]int{1}, len(v.l))
	for _, i := range at {
		all[i] = other
	}
	return all
}

func drawn(r *rand.Rand, size int) []byte {
	b := make([]byte, size)
	r.Read(b)
	return b
}

// drawnVersion is one of so many bytes; the seed makes another one.
func drawnVersion(seed int64, size, k, m int) version {
	return versionOf(drawn(rand.New(rand.NewSource(seed)), size), k, m)
}

// abc is that of the chapter's examples.
func abc() version { return versionOf([]byte("abc"), 2, 1) }

// turned is bytes of which one has other bits.
func turned(b []byte, at int, by byte) []byte {
	other := bytes.Clone(b)
	other[at] ^= by
	return other
}

// allErrors are what a drive may answer that has no file, and numbers that none answers.
func allErrors() []api.Errno {
	all := []api.Errno{-1, -6, 16, 100, 106, 160, 210, 420, 256, 262, 1 << 32, 1<<32 + 6, math.MinInt, math.MaxInt}
	for err := api.ErrNil; err <= api.ErrMark; err++ {
		all = append(all, err)
	}
	return all
}

// spoil is what became of a file, and the state that it is told by.
type spoil struct {
	c     api.Copy
	state int
}

// spoiled are what may become of the file of a byte or more, so that it is not sound.
func spoiled(file []byte) map[string]spoil {
	last := len(file) - 1
	return map[string]spoil{
		"gone":                 {api.Copy{Err: api.ErrMissing}, 2},
		"gone beside its file": {api.Copy{Err: api.ErrMissing, B: file}, 2},
		"away":                 {api.Copy{Err: api.ErrOffline}, 4},
		"away beside its file": {api.Copy{Err: api.ErrOffline, B: file}, 4},
		"broken":               {api.Copy{Err: api.ErrBroken, B: file}, 4},
		"nil":                  {api.Copy{}, 3},
		"empty":                {api.Copy{B: []byte{}}, 3},
		"too short":            {api.Copy{B: file[:last]}, 3},
		"too long":             {api.Copy{B: append(bytes.Clone(file), 0)}, 3},
		"without its first":    {api.Copy{B: file[1:]}, 3},
		"without its digest":   {api.Copy{B: file[digestLen:]}, 3},
		"its digest":           {api.Copy{B: file[:digestLen]}, 3},
		"turned first":         {api.Copy{B: turned(file, 0, 1)}, 3},
		"turned last":          {api.Copy{B: turned(file, last, 128)}, 3},
		"noughts":              {api.Copy{B: make([]byte, len(file))}, 3},
		"a file with more":     {api.Copy{B: fileOf(make([]byte, len(file)))}, 3},
	}
}

// names are those of a map, in order.
func names[T any](m map[string]T) []string {
	var all []string
	for name := range m {
		all = append(all, name)
	}
	slices.Sort(all)
	return all
}

// pairs are all k and m that may be, together at most n.
func pairs(n int) [][2]int {
	var all [][2]int
	for k := 1; k < n; k++ {
		for m := 1; k+m <= n; m++ {
			all = append(all, [2]int{k, m})
		}
	}
	return all
}

// places are those of a set of bits.
func places(bits, n int) []int {
	var all []int
	for i := range n {
		if bits>>i&1 > 0 {
			all = append(all, i)
		}
	}
	return all
}
