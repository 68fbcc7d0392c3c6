package name_test

import (
	"fmt"
	"math/rand"
	"regexp"
	"strconv"
	"strings"
	"testing"

	"stowage/api"
	"stowage/name"
)

const (
	mostBucket = 32
	mostKey    = 120
	mostPath   = 393
	bytesInAll = 256
)

// What follows here is the chapter's words, one by one.

// signsOfBuckets are the bytes of buckets' names, ends those at their ends; signs are any signs with digits; asTheyAre the bytes that paths have as they are.
var (
	signsOfBuckets = regexp.MustCompile(`^[a-z0-9.-]{3,32}$`)
	ends           = regexp.MustCompile(`^[^.-].*[^.-]$`)
	signs          = regexp.MustCompile(`%[0-9a-fA-F]{2}`)
	asTheyAre      = "abcdefghijklmnopqrstuvwxyzABCDEFGHIJKLMNOPQRSTUVWXYZ0123456789-_"
)

func modelBucket(s string) bool {
	for _, pair := range []string{"..", ".-", "-."} {
		if strings.Contains(s, pair) {
			return false
		}
	}
	return signsOfBuckets.MatchString(s) && ends.MatchString(s)
}

func modelKey(s string) bool {
	for _, c := range []byte(s) {
		if c < 32 || c > 126 {
			return false
		}
	}
	return 1 <= len(s) && len(s) <= mostKey
}

func modelPath(bucket, key string) (string, api.Errno) {
	if !modelBucket(bucket) {
		return "", api.ErrName
	}
	if !modelKey(key) {
		return "", api.ErrBytes
	}
	path := bucket + "/"
	for _, c := range []byte(key) {
		if strings.IndexByte(asTheyAre, c) >= 0 {
			path += string([]byte{c})
		} else {
			path += fmt.Sprintf("%%%02x", c)
		}
	}
	return path, api.OK
}

// loose reads any sign with two digits behind it, great ones, too, and leaves all else as it is.
func loose(s string) string {
	return signs.ReplaceAllStringFunc(s, func(of string) string {
		n, err := strconv.ParseUint(of[1:], 16, 8)
		if err != nil {
			panic(err)
		}
		return string([]byte{byte(n)})
	})
}

// modelOf: a path is read loosely, and what is read counts if just this is its path.
func modelOf(path string) (string, string, api.Errno) {
	at := strings.Index(path, "/")
	if at < 0 {
		return "", "", api.ErrBytes
	}
	bucket, key := path[:at], loose(path[at+1:])
	if its, err := modelPath(bucket, key); err != api.OK || its != path {
		return "", "", api.ErrBytes
	}
	return bucket, key, api.OK
}

// Each of these asks and holds the answer against the model.

func wantBucket(t *testing.T, s string) {
	t.Helper()
	if is, wanted := name.Bucket(s), modelBucket(s); is != wanted {
		t.Errorf("Bucket(%q): %t; want %t", shown(s), is, wanted)
	}
}

func wantKey(t *testing.T, s string) {
	t.Helper()
	if is, wanted := name.Key(s), modelKey(s); is != wanted {
		t.Errorf("Key(%q): %t; want %t", shown(s), is, wanted)
	}
}

func wantPath(t *testing.T, bucket, key string) {
	t.Helper()
	path, err := name.Path(bucket, key)
	if wanted, wantedErr := modelPath(bucket, key); path != wanted || err != wantedErr {
		t.Errorf("Path(%q, %q): %q, %d; want %q, %d", shown(bucket), shown(key), path, err, wanted, wantedErr)
	}
}

func wantOf(t *testing.T, path string) {
	t.Helper()
	bucket, key, err := name.Of(path)
	if b, k, wantedErr := modelOf(path); bucket != b || key != k || err != wantedErr {
		t.Errorf("Of(%q): %q, %q, %d; want %q, %q, %d", shown(path), bucket, key, err, b, k, wantedErr)
	}
}

// wantRefused: a path that is none, whatever the model says.
func wantRefused(t *testing.T, path string) {
	t.Helper()
	wantOf(t, path)
	if bucket, key, err := name.Of(path); bucket != "" || key != "" || err != api.ErrBytes {
		t.Errorf("Of(%q): %q, %q, %d; want it refused", shown(path), bucket, key, err)
	}
}

// shown is a text, cut where it is long.
func shown(s string) string {
	if len(s) > 2*mostPath {
		return s[:mostPath] + ".. (" + strconv.Itoa(len(s)) + " bytes)"
	}
	return s
}

// one is a text of a byte.
func one(c int) string { return string([]byte{byte(c)}) }

// each calls f with all texts of up to so many signs, each of which is one of some.
func each(signs []string, most int, f func(s string)) {
	level := []string{""}
	for range most + 1 {
		var next []string
		for _, s := range level {
			f(s)
			for _, sign := range signs {
				next = append(next, s+sign)
			}
		}
		level = next
	}
}

// drawnOf is a text of drawn bytes out of some.
func drawnOf(r *rand.Rand, signs string, size int) string {
	b := make([]byte, size)
	for i := range b {
		b[i] = signs[r.Intn(len(signs))]
	}
	return string(b)
}

// drawnBucket is a name that is drawn till it is one.
func drawnBucket(r *rand.Rand) string {
	for {
		if s := drawnOf(r, "abcxyz0189.-", 3+r.Intn(mostBucket-2)); modelBucket(s) {
			return s
		}
	}
}

// drawnKey is a key of any of its bytes.
func drawnKey(r *rand.Rand) string {
	b := make([]byte, 1+r.Intn(mostKey))
	for i := range b {
		b[i] = byte(32 + r.Intn(95))
	}
	return string(b)
}

// drawnBytes are any bytes.
func drawnBytes(r *rand.Rand, size int) string {
	b := make([]byte, size)
	r.Read(b)
	return string(b)
}
