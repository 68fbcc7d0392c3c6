package fan_test

import (
	"slices"
	"strings"
	"testing"

	"stowage/api"
	"stowage/drive"
	"stowage/fan"
)

// TestFinishNone: a drive that is none is told ahead of all else.
func TestFinishNone(t *testing.T) {
	for what, d := range nones(t) {
		for _, names := range [][]string{nil, {"a"}, {"a b"}, {""}, numbered(128), numbered(129)} {
			want(t, what, fan.Finish(d, names), api.ErrNil)
		}
	}
}

// TestFinish: what is staged has its name, in the place of what had it, loose as it was; what is not is passed over.
func TestFinish(t *testing.T) {
	b := on("a", "tmp/a", "tmp/b", "tmp/d", "e", "tmp/tmp/f").holding("tmp/c", "loose", true)
	cases := [][]string{
		nil, {}, {"a"}, {"b"}, {"c"}, {"e"}, {"none"}, {"a", "b", "c", "d"}, {"d", "c", "b", "a"}, {"none", "a", "no", "b", "none"}, {"a", "a"}, {"tmp/f"}, {"tmp/f", "f"}, {"f", "tmp/f"},
	}
	for _, names := range cases {
		l, was := makeAll(t, []box{b})
		want(t, strings.Join(names, " "), fan.Finish(l[0], names), api.OK)
		for _, name := range names {
			if f, staged := was[0].files["tmp/"+name]; staged {
				delete(was[0].files, "tmp/"+name)
				was[0].files[name] = f
				was[0].ops++
			}
		}
		wantBoxes(t, strings.Join(names, " "), l, was)
		want(t, "once more", fan.Finish(l[0], names), api.OK)
	}
	full := on("tmp/a").filled().make(t)
	want(t, "a full drive", fan.Finish(full, []string{"a"}), api.OK)
	wantNames(t, "a full drive", drives{full}, "", []string{"a"}, api.OK)
}

// TestFinishHowMany: up to 128 names are taken.
func TestFinishHowMany(t *testing.T) {
	for _, n := range []int{0, 1, 127, 128, 129, 130, 1 << 12} {
		b := box{size: 1 << 16, files: map[string]file{}}
		for _, name := range numbered(min(n, 200)) {
			b.files["tmp/"+name] = file{b: name}
		}
		for _, b := range []box{b, on()} {
			l, was := makeAll(t, []box{b})
			if n > 128 {
				want(t, "too many", fan.Finish(l[0], numbered(n)), api.ErrLong)
				want(t, "too many, also wrong ones", fan.Finish(l[0], append(numbered(n), "a b", "")), api.ErrLong)
				wantBoxes(t, "too many", l, was)
				continue
			}
			want(t, "not too many", fan.Finish(l[0], numbered(n)), api.OK)
			wantNames(t, "not too many", l, "tmp/", nil, api.OK)
			wantNames(t, "not too many", l, "n", slices.Sorted(slices.Values(numbered(n)))[:len(b.files)], api.OK)
		}
	}
	for what, b := range map[string]box{"offline": on().away(), "out": on().broken()} {
		want(t, what, fan.Finish(b.make(t), numbered(129)), api.ErrLong)
		want(t, what, fan.Finish(b.make(t), []string{"a", "a b"}), api.ErrName)
		want(t, what, fan.Finish(b.make(t), nil), api.OK)
	}
}

// TestFinishNames: a name that may not be, at any place, leaves all as it is.
func TestFinishNames(t *testing.T) {
	for _, name := range wrongNames {
		for at := range 3 {
			l, was := makeAll(t, []box{on("tmp/a", "tmp/b")})
			want(t, "a wrong name", fan.Finish(l[0], slices.Insert([]string{"a", "b"}, at, name)), api.ErrName)
			wantBoxes(t, "a wrong name", l, was)
		}
	}
	for _, name := range rightNames {
		if len(name) <= 508 {
			holdFinish(t, on("tmp/"+name), []string{name}, -1)
			holdFinish(t, on(), []string{name}, -1)
		}
	}
	longest := strings.Repeat("n", 508)
	d := on("tmp/" + longest).make(t)
	want(t, "the longest name", fan.Finish(d, []string{longest}), api.OK)
	wantNames(t, "the longest name", drives{d}, "", []string{longest}, api.OK)
}

// TestFinishTooLongStaged: a name that may be, but whose staged name may not, is refused by the drive when its turn comes.
func TestFinishTooLongStaged(t *testing.T) {
	for _, n := range []int{509, 512} {
		long := strings.Repeat("n", n)
		l, was := makeAll(t, []box{on("tmp/a", "tmp/b", long)})
		want(t, "alone", fan.Finish(l[0], []string{long}), api.ErrName)
		want(t, "ahead", fan.Finish(l[0], []string{long, "a"}), api.ErrName)
		wantBoxes(t, "ahead", l, was)
		want(t, "in the midst", fan.Finish(l[0], []string{"a", long, "b"}), api.ErrName)
		wantNames(t, "in the midst", l, "", []string{"a", long, "tmp/b"}, api.OK)
		want(t, "offline", fan.Finish(on().away().make(t), []string{long}), api.ErrOffline)
	}
}

// TestFinishErrors: the first error but ErrMissing ends the call, and what was done ahead of it stays.
func TestFinishErrors(t *testing.T) {
	for _, names := range [][]string{{"a"}, {"none"}, {"none", "a"}} {
		for wanted, b := range map[api.Errno]box{api.ErrOffline: on("tmp/a").away(), api.ErrBroken: on("tmp/a").broken()} {
			l, was := makeAll(t, []box{b})
			want(t, "a drive that does not answer", fan.Finish(l[0], names), wanted)
			wantBoxes(t, "a drive that does not answer", l, was)
		}
	}
	both := on("tmp/a").away().broken().make(t)
	want(t, "out and offline", fan.Finish(both, []string{"a"}), api.ErrBroken)
	for fuse := range 6 {
		holdFinish(t, on("tmp/a", "tmp/b", "tmp/c", "b").holding("tmp/d", "x", true), []string{"d", "none", "b", "no", "a", "c", "e"}, fuse)
	}
	d := on("tmp/a", "tmp/b", "tmp/c").make(t)
	drive.Fuse(drives{d}, 2)
	want(t, "a fuse of 2", fan.Finish(d, []string{"c", "x", "a", "y", "b"}), api.ErrBroken)
	d.Crash(nil)
	wantNames(t, "a fuse of 2", drives{d}, "", []string{"a", "c", "tmp/b"}, api.OK)
	want(t, "once more", fan.Finish(d, []string{"c", "x", "a", "y", "b"}), api.OK)
	wantNames(t, "once more", drives{d}, "", []string{"a", "b", "c"}, api.OK)
}
