package name_test

import (
	"fmt"
	"math/rand"
	"strings"
	"testing"

	"stowage/api"
	"stowage/name"
)

// P16.2

func TestOfExamples(t *testing.T) {
	if b, k, err := name.Of("abc/a%2fb"); b != "abc" || k != "a/b" || err != api.OK {
		t.Errorf("%q, %q, %d", b, k, err)
	}
	for _, path := range []string{"abc/a%2Fb", "abc/%61", "abc/", "ab/a"} {
		wantRefused(t, path)
	}
}

// TestOfRefused: what is no path, kind by kind.
func TestOfRefused(t *testing.T) {
	for what, paths := range map[string][]string{
		"nothing between":     {"", "abc", "abcdef", "abc%2fdef", "a", "%"},
		"more between":        {"abc/a/b", "abc//", "abc//a", "abc/a/", "abc/def/ghi/jkl", "/abc/a", "abc/%2f/"},
		"at an end":           {"/", "//", "/abc", "abc/", "/a/"},
		"a name that is none": {"ab/a", "a..b/a", "-ab/a", "ab-/a", ".ab/a", "ab./a", "a.-b/a", "a-.b/a", "Abc/a", "a_b/a", "a b/a", "a%62c/a", "%61bc/a", strings.Repeat("a", 33) + "/a"},
		"a key that is none":  {"abc/", "abc/" + strings.Repeat("a", 121), "abc/" + strings.Repeat("%2f", 121), "abc/" + strings.Repeat("%2f", 120) + "a", "abc/a" + strings.Repeat("%2f", 120)},
		"a sign at the end":   {"abc/%", "abc/a%", "abc/%2f%", "abc/" + strings.Repeat("a", 119) + "%"},
		"one digit":           {"abc/%2", "abc/a%2", "abc/%f", "abc/%2f%2", "abc/%2%2f", "abc/%%2f", "abc/%2%"},
		"no digits":           {"abc/%zz", "abc/%2g", "abc/%g2", "abc/% 2", "abc/%2 ", "abc/%/2", "abc/%2/", "abc/%-2", "abc/%+2", "abc/%0x", "abc/%\x0022"},
		"great digits":        {"abc/%2F", "abc/%2A", "abc/%2B", "abc/%2C", "abc/%2D", "abc/%2E", "abc/%7E", "abc/%3A", "abc/a%2Fb"},
		"it stands as it is":  {"abc/%61", "abc/%41", "abc/%30", "abc/%39", "abc/%5a", "abc/%7a", "abc/%2d", "abc/%5f"},
		"no key has it":       {"abc/%00", "abc/%09", "abc/%0a", "abc/%1f", "abc/%7f", "abc/%80", "abc/%ff"},
		"it must not stand":   {"abc/a.b", "abc/a b", "abc/.", "abc/~", "abc/a+b", "abc/\x00", "abc/\t", "abc/\x7f", "abc/é", "abc/\xff"},
	} {
		for _, path := range paths {
			t.Run(what, func(t *testing.T) { wantRefused(t, path) })
		}
	}
}

// TestOfEachByte: each byte as it is, and as a sign with its digits, small ones and great ones, at either end and between others.
func TestOfEachByte(t *testing.T) {
	for c := range bytesInAll {
		for _, written := range []string{one(c), fmt.Sprintf("%%%02x", c), fmt.Sprintf("%%%02X", c)} {
			for _, form := range []string{"abc/%s", "abc/x%s", "abc/%sy", "abc/x%sy", "abc/%%2f%s%%20"} {
				wantOf(t, fmt.Sprintf(form, written))
			}
			wantOf(t, "a"+written+"c/key")
		}
		as := strings.IndexByte(asTheyAre, byte(c)) >= 0
		for written, may := range map[string]bool{one(c): as, fmt.Sprintf("%%%02x", c): !as && c >= 32 && c <= 126} {
			if _, _, err := name.Of("abc/" + written); (err == api.OK) != may {
				t.Errorf("Of(abc/%q): %d", written, err)
			}
		}
	}
}

// TestOfAllDigits: a sign with any two bytes behind it.
func TestOfAllDigits(t *testing.T) {
	read := 0
	for a := range bytesInAll {
		for b := range bytesInAll {
			path := "abc/%" + one(a) + one(b)
			wantOf(t, path)
			wantOf(t, path+"k")
			if _, _, err := name.Of(path); err == api.OK {
				read++
			}
		}
	}
	// 95 bytes may be in a key, 64 of them stand as they are.
	if read != 31 {
		t.Errorf("%d bytes are read out of digits", read)
	}
}

// TestOfLengths: keys of each length, written in one byte or in three each, by themselves and behind one another.
func TestOfLengths(t *testing.T) {
	for size := range mostKey + 4 {
		for other := range mostKey + 4 - size {
			path := "abc/" + strings.Repeat("k", size) + strings.Repeat("%7e", other)
			wantOf(t, path)
			wantOf(t, path[:len(path)-1])
		}
	}
	for size := range mostBucket + 4 {
		wantOf(t, strings.Repeat("b", size)+"/k")
	}
	wantRefused(t, "abc/"+strings.Repeat("k", 1<<20))
	wantRefused(t, "abc/"+strings.Repeat("%7e", 1<<20))
	wantRefused(t, strings.Repeat("k", 1<<20)+"/k")
	wantRefused(t, strings.Repeat("/", 1<<20))
}

// TestOfShort: all texts of few signs, as a whole and behind a bucket's name.
func TestOfShort(t *testing.T) {
	each([]string{"a", "%", "2", "f", "F", "/", "."}, 5, func(s string) {
		wantOf(t, "abc/"+s)
		wantOf(t, s)
	})
	each([]string{"a", "/", "%2f", "-", "."}, 7, func(s string) { wantOf(t, s) })
}

// TestOfTurned: paths with a byte turned, put in or taken out: whatever is read has just that path.
func TestOfTurned(t *testing.T) {
	r := rand.New(rand.NewSource(6))
	read := 0
	for range 20000 {
		path, _ := name.Path(drawnBucket(r), drawnKey(r))
		place, c := r.Intn(len(path)), one(r.Intn(bytesInAll))
		for _, s := range []string{path, path[:place] + c + path[place+1:], path[:place] + c + path[place:], path[:place] + path[place+1:], path[:place], path[place:]} {
			wantOf(t, s)
			bucket, key, err := name.Of(s)
			if err != api.OK {
				continue
			}
			read++
			if its, err := name.Path(bucket, key); its != s || err != api.OK {
				t.Fatalf("Of(%q): %q, %q; their path is %q, %d", s, bucket, key, its, err)
			}
		}
	}
	if read < 30000 {
		t.Errorf("%d paths alone were read", read)
	}
}

// TestOfDrawn: any bytes, and such as paths are made of.
func TestOfDrawn(t *testing.T) {
	r := rand.New(rand.NewSource(7))
	for range 50000 {
		wantOf(t, drawnBytes(r, r.Intn(12)))
		wantOf(t, "abc/"+drawnBytes(r, r.Intn(4)))
		wantOf(t, drawnOf(r, "abcdef0123456789", 4)+"/"+drawnOf(r, "abcdef0123456789%%%", r.Intn(12)))
		wantOf(t, drawnOf(r, "abc%2/", r.Intn(2*mostPath)))
	}
}
