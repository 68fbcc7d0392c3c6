package shard_test

import (
	"bytes"
	"crypto/sha256"
	"math"
	"math/rand"
	"strings"
	"testing"

	"stowage/api"
	"stowage/block"
	"stowage/gf"
	"stowage/shard"
	"stowage/stripe"
)

// TestExamples are those of the chapter.
func TestExamples(t *testing.T) {
	files, err := shard.Lay([]byte("abc"), 2, 1)
	if len(files) != 3 || err != api.OK {
		t.Fatal(len(files), err)
	}
	for i, file := range files {
		if len(file) != 34 {
			t.Errorf("file %d has %d bytes", i, len(file))
		}
	}
	v := abc()
	gone, away := api.Copy{Err: api.ErrMissing}, api.Copy{Err: api.ErrOffline}
	wantRead(t, "all", v.l, v.r, []byte("abc"), api.OK)
	wantRead(t, "the last two", v.with(0, gone), v.r, []byte("abc"), api.OK)
	wantRead(t, "the last one", []api.Copy{gone, gone, v.l[2]}, v.r, nil, api.ErrQuorum)
	for at := range v.l[0].B {
		l := v.with(0, api.Copy{B: turned(v.l[0].B, at, 1)})
		wantRead(t, "a byte turned", l, v.r, []byte("abc"), api.OK)
		wantMend(t, "a byte turned", l, v.r, files, []int{3, 1, 1}, api.OK)
	}
	wantMend(t, "gone and away", []api.Copy{gone, away, v.l[2]}, v.r, nil, nil, api.ErrQuorum)
	wantPart(t, "the midst", v.l, v.r, 1, 2, []byte("b"), api.OK)
	wantPart(t, "beyond the end", v.l, v.r, 2, 4, nil, api.ErrRange)
	wantName(t, "a", "x", "", api.ErrArg)
}

// P11.1

func wantName(t *testing.T, path, data, wanted string, wantedErr api.Errno) {
	t.Helper()
	if s, err := shard.Name(path, data); s != wanted || err != wantedErr {
		t.Errorf("Name(%.40q of %d, %q): %.40q of %d, %d; want %.40q of %d, %d", path, len(path), data, s, len(s), err, wanted, len(wanted), wantedErr)
	}
}

const dataName = "0123456789abcdef0f1e2d3c4b5a6978"

// oddPaths are paths of bytes that are no letters, all of them such as may be.
func oddPaths() []string {
	every := make([]byte, 256)
	for i := range every {
		every[i] = byte(i)
	}
	return []string{
		"a", "/", "-", ".", " ", "\x00", "\xff", "\n", "s/", "s/a", "a-" + dataName, "-" + dataName, "../a", "//", "a b", "é", "\u2028", "\xc3", "\xed\xa0\x80",
		string(every), strings.Repeat("é", 200), strings.Repeat("\x00", 400), strings.Repeat("\xff", 400), strings.Repeat("/", 400), strings.Repeat("-", 400),
	}
}

// TestNameOfPaths: 1 to 400 bytes, whatever they are; bytes count, not letters.
func TestNameOfPaths(t *testing.T) {
	for n := range 1000 {
		path := strings.Repeat("p", n)
		if n < 1 || n > 400 {
			wantName(t, path, dataName, "", api.ErrArg)
		} else {
			wantName(t, path, dataName, "s/"+path+"-"+dataName, api.OK)
		}
	}
	for _, path := range oddPaths() {
		wantName(t, path, dataName, "s/"+path+"-"+dataName, api.OK)
	}
	for _, path := range []string{strings.Repeat("é", 201), strings.Repeat("é", 400), strings.Repeat("\xff", 401), strings.Repeat("\x00", 401), strings.Repeat("a", 656), strings.Repeat("a", 1<<20)} {
		wantName(t, path, dataName, "", api.ErrArg)
	}
	for c := range 256 {
		path := string([]byte{byte(c)})
		wantName(t, path, dataName, "s/"+path+"-"+dataName, api.OK)
	}
}

// wrongData are texts that are no data names.
func wrongData() []string {
	return []string{
		"", "x", "0", dataName[1:], dataName + "0", dataName + dataName, dataName[:31] + "g", "G" + dataName[1:], strings.ToUpper(dataName), strings.Repeat("é", 16),
		"-" + dataName[1:], dataName[:31] + "-", dataName[:31] + " ", " " + dataName, dataName + " ", dataName[:31] + "\x00", dataName + "\x00", "\x00" + dataName, strings.Repeat("0", 1<<16),
	}
}

// TestNameOfData: just 32 digits, each from 0 to 9 or from a to f, whatever the path is.
func TestNameOfData(t *testing.T) {
	for n := range 100 {
		data := strings.Repeat("a", n)
		if n == 32 {
			wantName(t, "p", data, "s/p-"+data, api.OK)
		} else {
			wantName(t, "p", data, "", api.ErrArg)
		}
	}
	for at := range 32 {
		for c := range 256 {
			data := dataName[:at] + string([]byte{byte(c)}) + dataName[at+1:]
			if strings.IndexByte("0123456789abcdef", byte(c)) >= 0 {
				wantName(t, "p", data, "s/p-"+data, api.OK)
			} else {
				wantName(t, "p", data, "", api.ErrArg)
			}
		}
	}
	for _, data := range wrongData() {
		for _, path := range append(oddPaths(), "", strings.Repeat("p", 401), strings.Repeat("p", 10000)) {
			wantName(t, path, data, "", api.ErrArg)
		}
	}
}

// TestNamesAreUnlike: unlike paths, or unlike data names, have unlike names.
func TestNamesAreUnlike(t *testing.T) {
	paths := oddPaths()
	for n := 2; n <= 400; n += 7 {
		paths = append(paths, strings.Repeat("q", n))
	}
	other := strings.Repeat("0", 32)
	for _, p := range []string{"a", "b", "a-", "a/b", "A"} {
		paths = append(paths, p+"-"+other, p+"-"+other+"-"+dataName, p+"-"+other[1:], p+"x", "s/"+p+"-"+other)
	}
	var data []string
	for at := range 32 {
		data = append(data, other[:at]+"1"+other[at+1:], dataName[at:]+dataName[:at])
	}
	data = append(data, other, strings.Repeat("f", 32))
	seen := map[string][2]string{}
	for _, p := range paths {
		for _, d := range data {
			name, err := shard.Name(p, d)
			was, again := seen[name]
			if again && was != [2]string{p, d} || err != api.OK {
				t.Fatalf("%q and %q have the name of %q", p, d, was)
			}
			seen[name] = [2]string{p, d}
		}
	}
}

// wantLay asks whether the files are those of stripe's shards, each as block lays it, and as the document says it.
func wantLay(t *testing.T, b []byte, k, m int) {
	t.Helper()
	files, err := shard.Lay(b, k, m)
	if err != api.OK || len(files) != k+m {
		t.Errorf("Lay of %d bytes, %d, %d: %d files, %d", len(b), k, m, len(files), err)
		return
	}
	shards, _ := stripe.Split(b, k, m)
	for i, s := range shards {
		laid, _ := block.Lay(s)
		if !bytes.Equal(files[i], laid) || !bytes.Equal(files[i], fileOf(s)) {
			t.Errorf("Lay of %d bytes, %d, %d: file %d is %s; want %s", len(b), k, m, i, short(files[i]), short(laid))
		}
	}
}

func wantNoLay(t *testing.T, b []byte, k, m int, wanted api.Errno) {
	t.Helper()
	if files, err := shard.Lay(b, k, m); len(files) != 0 || err != wanted {
		t.Errorf("Lay of %d bytes, %d, %d: %d files, %d; want %d", len(b), k, m, len(files), err, wanted)
	}
}

// TestLayKnown: the shards of abc, by hand.
func TestLayKnown(t *testing.T) {
	files, err := shard.Lay([]byte("abc"), 2, 1)
	parity := make([]byte, 2)
	for i, pair := range [][2]byte{{'a', 'c'}, {'b', 0}} {
		parity[i] = gf.Add(gf.Mul(142, pair[0]), gf.Mul(244, pair[1]))
	}
	for i, s := range [][]byte{[]byte("ab"), {'c', 0}, parity} {
		d := sha256.Sum256(s)
		if err != api.OK || !bytes.Equal(files[i], append(d[:], s...)) {
			t.Errorf("file %d of abc: %s", i, short(files[i]))
		}
	}
}

// TestLayLengths: of all k and m, no bytes, 1, as many as the shards hold evenly, and one fewer and one more.
func TestLayLengths(t *testing.T) {
	r := rand.New(rand.NewSource(111))
	for _, p := range pairs(maxDrives) {
		k, m := p[0], p[1]
		wantLay(t, nil, k, m)
		wantLay(t, []byte{}, k, m)
		for _, n := range []int{1, 2, k - 1, k, k + 1, 7*k - 1, 7 * k, 7*k + 1, blockLen*k - 1, blockLen * k, blockLen*k + 1} {
			wantLay(t, drawn(r, n), k, m)
		}
	}
	for n := range 700 {
		wantLay(t, drawn(r, n), 1, 1)
		wantLay(t, drawn(r, n), 2, 1)
		wantLay(t, drawn(r, n), 5, 3)
	}
}

// TestLayOfNone: no bytes have as many files, each of which is empty.
func TestLayOfNone(t *testing.T) {
	for _, p := range pairs(maxDrives) {
		files, err := shard.Lay(nil, p[0], p[1])
		if len(files) != p[0]+p[1] || err != api.OK || len(bytes.Join(files, nil)) > 0 {
			t.Errorf("Lay of none, %v: %v, %d", p, files, err)
		}
	}
}

// TestLayGreatest: 65,536 bytes, and around them.
func TestLayGreatest(t *testing.T) {
	r := rand.New(rand.NewSource(112))
	for _, p := range [][2]int{{1, 1}, {1, 15}, {15, 1}, {8, 8}, {2, 1}, {3, 2}, {7, 9}} {
		for _, n := range []int{most - 1, most} {
			wantLay(t, drawn(r, n), p[0], p[1])
		}
	}
	for _, p := range pairs(maxDrives) {
		for _, n := range []int{most + 1, most + 2, most + blockLen, 2 * most, 1 << 20} {
			wantNoLay(t, make([]byte, n), p[0], p[1], api.ErrLong)
		}
	}
}

// TestLayOfWrongNumbers: k and m that may not be, at each edge and far from it, also with too many bytes.
func TestLayOfWrongNumbers(t *testing.T) {
	numbers := []int{math.MinInt, math.MinInt + 1, math.MinInt32, -65536, -256, -255, -17, -16, -15, -2, -1, 0, 1, 2, 3, 8, 13, 14, 15, 16, 17, 18, 255, 256, 257, 272,
		1 << 32, 1<<32 + 1, 1<<32 + 2, math.MaxInt32, math.MaxInt - 1, math.MaxInt, math.MaxInt - 14}
	r := rand.New(rand.NewSource(113))
	small, long := drawn(r, 100), drawn(r, most+1)
	for _, k := range numbers {
		for _, m := range numbers {
			may := k >= 1 && m >= 1 && k <= 16 && m <= 16 && k+m <= 16
			if may {
				wantLay(t, small, k, m)
				wantNoLay(t, long, k, m, api.ErrLong)
				continue
			}
			for _, b := range [][]byte{nil, {}, small, long} {
				wantNoLay(t, b, k, m, api.ErrRange)
			}
		}
	}
	for k := -2; k <= 19; k++ {
		for m := -2; m <= 19; m++ {
			if k < 1 || m < 1 || k+m > 16 {
				wantNoLay(t, small, k, m, api.ErrRange)
				wantNoLay(t, long, k, m, api.ErrRange)
			} else {
				wantLay(t, small, k, m)
			}
		}
	}
}
