package name_test

import (
	"math/rand"
	"strings"
	"testing"

	"stowage/name"
)

// P16.1: Bucket

func TestBucketExamples(t *testing.T) {
	for s, wanted := range map[string]bool{
		"my-logs.7": true, "ab": false, "a..b": false, "-ab": false, "Abc": false,
	} {
		if is := name.Bucket(s); is != wanted {
			t.Errorf("Bucket(%q): %t", s, is)
		}
	}
}

// TestBucketKnown: what the words say of single names, told without the model.
func TestBucketKnown(t *testing.T) {
	for s, wanted := range map[string]bool{
		"": false, "a": false, "aa": false, "aaa": true, "000": true, "a0z": true,
		strings.Repeat("a", 31): true, strings.Repeat("a", 32): true, strings.Repeat("a", 33): false,
		strings.Repeat("a.", 16): false, strings.Repeat("a.", 15) + "ab": true,
		"a-b": true, "a--b": true, "a---b": true, "a.b": true, "a.b.c": true, "a-b.c-d": true,
		"a.-b": false, "a-.b": false, "a...b": false, "a-.-b": false, "a.-.b": false,
		".ab": false, "ab.": false, "-ab": false, "ab-": false, "...": false, "---": false, "a.b.": false, ".a.b": false,
		"..ab": false, "ab..": false, ".-ab": false, "ab-.": false, "-.ab": false, "ab.-": false, "--ab": false, "ab--": false,
		"aBc": false, "ABC": false, "a_b": false, "a b": false, "a/b": false, "a%b": false, "a\x00b": false, "aéb": false,
		"abc\n": false, "\nabc": false, "abc ": false, " abc": false,
	} {
		if is := name.Bucket(s); is != wanted {
			t.Errorf("Bucket(%q): %t", s, is)
		}
		wantBucket(t, s)
	}
}

// TestBucketLengths: each length around the bounds, of bytes that any place may have.
func TestBucketLengths(t *testing.T) {
	for size := range 3 * mostBucket {
		s := strings.Repeat("k", size)
		if is := name.Bucket(s); is != (size >= 3 && size <= 32) {
			t.Errorf("%d bytes: %t", size, is)
		}
		wantBucket(t, strings.Repeat("-", size))
		wantBucket(t, strings.Repeat(".", size))
	}
	wantBucket(t, strings.Repeat("a", 1<<20))
}

// TestBucketBytes: each byte at each place of names of some lengths.
func TestBucketBytes(t *testing.T) {
	for _, size := range []int{3, 4, 5, 31, 32} {
		for place := range size {
			for c := range bytesInAll {
				wantBucket(t, strings.Repeat("a", place)+one(c)+strings.Repeat("b", size-1-place))
			}
		}
	}
}

// TestBucketPairs: all bytes beside all, at the ends and in the midst.
func TestBucketPairs(t *testing.T) {
	for a := range bytesInAll {
		for b := range bytesInAll {
			pair := one(a) + one(b)
			wantBucket(t, "x"+pair+"y")
			wantBucket(t, pair+"y")
			wantBucket(t, "x"+pair)
		}
	}
}

// TestBucketShort: all names of up to six bytes, of few.
func TestBucketShort(t *testing.T) {
	each([]string{"a", "0", "-", ".", "A", "/"}, 6, func(s string) { wantBucket(t, s) })
}

// TestBucketDrawn: names of any length, of bytes most of which may be.
func TestBucketDrawn(t *testing.T) {
	r := rand.New(rand.NewSource(1))
	for range 100000 {
		wantBucket(t, drawnOf(r, "abcdefghijklmnopqrstuvwxyz0123456789.-", r.Intn(mostBucket+3)))
		wantBucket(t, drawnBytes(r, r.Intn(6)))
	}
	for range 1000 {
		if s := drawnBucket(r); !name.Bucket(s) {
			t.Errorf("Bucket(%q): false", s)
		}
	}
}

// P16.1: Key

func TestKeyExamples(t *testing.T) {
	for s, wanted := range map[string]bool{"a/b c": true, "": false, "\t": false} {
		if is := name.Key(s); is != wanted {
			t.Errorf("Key(%q): %t", s, is)
		}
	}
}

// TestKeyBytes: each byte alone, as the first one, as the last one, and in the midst.
func TestKeyBytes(t *testing.T) {
	for c := range bytesInAll {
		may := c >= 32 && c <= 126
		for _, s := range []string{one(c), one(c) + "ab", "a" + one(c) + "b", "ab" + one(c), strings.Repeat("a", 119) + one(c), strings.Repeat(one(c), 120)} {
			if is := name.Key(s); is != may {
				t.Errorf("Key(%q): %t", s, is)
			}
			wantKey(t, s)
		}
	}
}

// TestKeyPlaces: each place of a key with a byte that none may have.
func TestKeyPlaces(t *testing.T) {
	for _, c := range []int{0, 9, 10, 31, 127, 128, 255} {
		for size := 1; size <= mostKey; size++ {
			for place := range size {
				s := strings.Repeat("~", place) + one(c) + strings.Repeat(" ", size-1-place)
				if name.Key(s) {
					t.Errorf("Key(%q): true", s)
				}
			}
		}
	}
}

func TestKeyLengths(t *testing.T) {
	for _, sign := range []string{"a", "/", " ", "~", "%", "."} {
		for size := range 3 * mostKey {
			if is := name.Key(strings.Repeat(sign, size)); is != (size >= 1 && size <= 120) {
				t.Errorf("%d times %q: %t", size, sign, is)
			}
		}
	}
	wantKey(t, strings.Repeat("a", 1<<20))
}

func TestKeyDrawn(t *testing.T) {
	r := rand.New(rand.NewSource(2))
	for range 20000 {
		wantKey(t, drawnKey(r))
		wantKey(t, drawnBytes(r, r.Intn(4)))
		// A key of two bytes fewer or more than there may be, one of them drawn.
		long := strings.Repeat("k", mostKey-2+r.Intn(5))
		place := r.Intn(len(long))
		wantKey(t, long[:place]+one(r.Intn(bytesInAll))+long[place+1:])
	}
}
