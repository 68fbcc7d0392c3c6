package name_test

import (
	"fmt"
	"math/rand"
	"strings"
	"testing"

	"stowage/api"
	"stowage/name"
)

// P16.1: Path

func TestPathExamples(t *testing.T) {
	for _, c := range []struct {
		bucket, key, wanted string
		err                 api.Errno
	}{
		{"abc", "a/b c_D", "abc/a%2fb%20c_D", api.OK},
		{"ab", "a", "", api.ErrName},
		{"abc", "", "", api.ErrBytes},
	} {
		if path, err := name.Path(c.bucket, c.key); path != c.wanted || err != c.err {
			t.Errorf("Path(%q, %q): %q, %d", c.bucket, c.key, path, err)
		}
	}
}

// TestPathBytes: each byte of a key, told byte by byte: as it is, or as a sign with two digits.
func TestPathBytes(t *testing.T) {
	for c := range bytesInAll {
		for _, key := range []string{one(c), "x" + one(c), one(c) + "y", "x" + one(c) + "y", one(c) + one(c)} {
			wantPath(t, "a.b", key)
		}
		if c < 32 || c > 126 {
			continue
		}
		wanted := fmt.Sprintf("abc/%%%02x", c)
		if 'a' <= c && c <= 'z' || 'A' <= c && c <= 'Z' || '0' <= c && c <= '9' || c == '-' || c == '_' {
			wanted = "abc/" + one(c)
		}
		if path, err := name.Path("abc", one(c)); path != wanted || err != api.OK {
			t.Errorf("Path(abc, %q): %q, %d; want %q", one(c), path, err, wanted)
		}
	}
}

// TestPathLongest: keys of 120 bytes, all of which stand as they are, and none of which do.
func TestPathLongest(t *testing.T) {
	bucket := strings.Repeat("b", mostBucket)
	path, err := name.Path(bucket, strings.Repeat("k", mostKey))
	if err != api.OK || path != bucket+"/"+strings.Repeat("k", mostKey) || len(path) != 153 {
		t.Errorf("as they are: %q, %d", path, err)
	}
	for _, c := range []string{"/", ".", "%", " ", "~"} {
		path, err = name.Path(bucket, strings.Repeat(c, mostKey))
		if err != api.OK || len(path) != mostPath || path != bucket+"/"+strings.Repeat(fmt.Sprintf("%%%02x", c[0]), mostKey) {
			t.Errorf("%q: %q, %d", c, path, err)
		}
	}
	for _, key := range []string{strings.Repeat("k", mostKey+1), strings.Repeat("/", mostKey+1), strings.Repeat("k", 1<<20)} {
		wantPath(t, bucket, key)
		wantPath(t, bucket+"b", key)
	}
}

// TestPathErrors: a name that is none is told ahead of a key that is none, and nothing beside either.
func TestPathErrors(t *testing.T) {
	for _, bucket := range []string{"", "ab", "Abc", "a..b", "-ab", "ab.", "a/b", strings.Repeat("a", 33)} {
		for _, key := range []string{"", "a", "a/b", "\t", "\x7f", strings.Repeat("a", 120), strings.Repeat("a", 121)} {
			if path, err := name.Path(bucket, key); path != "" || err != api.ErrName {
				t.Errorf("Path(%q, %q): %q, %d", bucket, key, path, err)
			}
		}
	}
	for _, key := range []string{"", "\t", "a\n", "\x7f", "é", "a\xff", strings.Repeat("a", 121), strings.Repeat("\x00", 121)} {
		if path, err := name.Path("abc", key); path != "" || err != api.ErrBytes {
			t.Errorf("Path(abc, %q): %q, %d", key, path, err)
		}
	}
}

// TestPathShort: all names and keys of few bytes.
func TestPathShort(t *testing.T) {
	each([]string{"a", "-", ".", "B"}, 4, func(bucket string) {
		each([]string{"a", "%", "/", "_", "\x1f"}, 3, func(key string) { wantPath(t, bucket, key) })
	})
}

func TestPathDrawn(t *testing.T) {
	r := rand.New(rand.NewSource(3))
	for range 5000 {
		wantPath(t, drawnBucket(r), drawnKey(r))
		wantPath(t, drawnOf(r, "ab.-", r.Intn(6)), drawnKey(r))
		wantPath(t, drawnBucket(r), drawnBytes(r, r.Intn(5)))
	}
}

// P16.3: a path leads back, and no two have the same one.

func TestThereAndBack(t *testing.T) {
	r := rand.New(rand.NewSource(4))
	for range 20000 {
		bucket, key := drawnBucket(r), drawnKey(r)
		path, err := name.Path(bucket, key)
		if err != api.OK || len(path) > mostPath || strings.Count(path, "/") != 1 {
			t.Fatalf("Path(%q, %q): %q, %d", bucket, key, path, err)
		}
		if b, k, err := name.Of(path); b != bucket || k != key || err != api.OK {
			t.Fatalf("Of(%q): %q, %q, %d; want %q, %q", path, b, k, err, bucket, key)
		}
	}
}

// TestEveryByteBack: each byte that a key may have, in the greatest key of it and in the least.
func TestEveryByteBack(t *testing.T) {
	for c := 32; c <= 126; c++ {
		for size := 1; size <= mostKey; size++ {
			bucket, key := "a.b-c", strings.Repeat(one(c), size)
			path, err := name.Path(bucket, key)
			if err != api.OK {
				t.Fatalf("Path(%q, %q): %d", bucket, key, err)
			}
			if b, k, err := name.Of(path); b != bucket || k != key || err != api.OK {
				t.Fatalf("Of(%q): %q, %q, %d", path, b, k, err)
			}
		}
	}
}

// TestUnlikePaths: no path is that of two keys, or of two buckets, all of few bytes, keys with what paths are made of.
func TestUnlikePaths(t *testing.T) {
	type object struct{ bucket, key string }
	of := map[string]object{}
	take := func(bucket, key string) {
		path, err := name.Path(bucket, key)
		if err != api.OK {
			return
		}
		if o, ok := of[path]; ok && o != (object{bucket, key}) {
			t.Errorf("%q is the path of %q, %q and of %q, %q", path, o.bucket, o.key, bucket, key)
		}
		of[path] = object{bucket, key}
	}
	each([]string{"a", "2", "-", "."}, 4, func(bucket string) {
		each([]string{"a", "A", "2", "f", "F", "%", "/", ".", " "}, 3, func(key string) { take(bucket, key) })
	})
	r := rand.New(rand.NewSource(5))
	for range 20000 {
		take(drawnBucket(r), drawnOf(r, "2f%/", 1+r.Intn(6)))
	}
	if len(of) < 50000 {
		t.Errorf("%d paths alone", len(of))
	}
}
