package pool_test

import (
	"fmt"
	"slices"
	"strings"
	"testing"

	"stowage/api"
	"stowage/digest"
	"stowage/journal"
	"stowage/pool"
)

// tells is all that a pool of such drives tells of some paths, a line of each: its journal, and of each version the bytes. It asks clones, for opening and reading change drives.
func tells(t *testing.T, l drives, s shape, paths ...string) []string {
	t.Helper()
	p := opened(t, clones(l), s)
	var lines []string
	for _, path := range paths {
		c, err := p.Look(path)
		line := fmt.Sprintf("%s: Seq %d %v", path, c.J.Seq, err)
		for _, r := range c.J.Records {
			got, b, err := p.Get(path, r.ID)
			line += fmt.Sprintf("; %s %v %.40s %d %.4x %v", r.ID, r.Mark, strings.TrimLeft(got.Data, "0"), len(b), digest.Sum(b), err)
		}
		lines = append(lines, line)
	}
	return lines
}

// life is a call in the midst of which drives stop: what became by hand of the drives ahead of it, the call; without one all is opened.
type life struct {
	s     shape
	spoil func(l drives)
	c     *call
}

// paths are those of a life: two of each set.
func (x life) paths() []string { return slices.Concat(pathsOf(x.s.sets, 2)...) }

// lives are calls of all kinds that change drives, in each set.
func lives(s shape) map[string]life {
	spoil := func(l drives) {
		for set, paths := range pathsOf(s.sets, 2) {
			d := l[s.places(set)[0]]
			d.Delete("j/" + paths[0])
			for _, name := range namesOf(d) {
				if strings.HasPrefix(name, "s/"+paths[0]) {
					d.Turn(name, 3, 1)
				}
			}
		}
	}
	bare := func(l drives) {
		for i, d := range l {
			if i%2 == 0 {
				d.Delete("format")
			} else {
				d.Turn("format", i, 1)
			}
		}
	}
	all := map[string]life{"an opening": {}, "an opening of spoiled drives": {spoil: spoil}, "an opening without formats": {spoil: bare}}
	with := func(what string, c call, spoil func(l drives)) { all[what] = life{spoil: spoil, c: &c} }
	with("a HealAll", healAll(), spoil)
	for set, paths := range pathsOf(s.sets, 2) {
		// begun laid the versions by these numbers.
		what := fmt.Sprint(" in set ", set)
		with("one more"+what, put(paths[0], version("z", 500), text(50, 4)), nil)
		with("in another's place"+what, put(paths[0], version("x", 500), text(50, 4)), nil)
		with("over spoiled ones"+what, put(paths[0], version("y", 500), text(50, 4)), spoil)
		with("a mark in its place"+what, put(paths[1], mark("y", 500), nil), nil)
		with("a Drop"+what, drop(paths[1], "y"), nil)
		with("a Get that mends"+what, get(paths[0], "y"), spoil)
		with("a Part that mends"+what, part(paths[0], "x", 3, 9), spoil)
		with("a Heal"+what, heal(paths[0]), spoil)
	}
	for what, x := range all {
		x.s = s
		all[what] = x
	}
	return all
}

// eachLife does so with each life of pools of these shapes, side by side.
func eachLife(t *testing.T, shapes []shape, do func(t *testing.T, what string, x life)) {
	for _, s := range shapes {
		for what, x := range lives(s) {
			t.Run(fmt.Sprintf("%s on %v", what, s), func(t *testing.T) {
				t.Parallel()
				do(t, what, x)
			})
		}
	}
}

// start are a life's drives, and their pool, ahead of its call: what becomes of drives becomes of them while they are open.
func (x life) start(t *testing.T, base drives) (drives, *pool.Pool) {
	t.Helper()
	l := clones(base)
	p := opened(t, l, x.s)
	if x.spoil != nil {
		x.spoil(l)
	}
	return l, p
}

// does does what is to be stopped, behind a fuse, held against the model.
func (x life) does(t *testing.T, what string, l drives, p *pool.Pool, f *fuse) api.Errno {
	t.Helper()
	if x.c == nil {
		_, err := opens(t, what, l, x.s, f)
		return err
	}
	return step(t, what, p, l, *x.c, f).err
}

// keepings are all ways to keep what is loose on drives: of each way a list a drive.
func keepings(l drives) [][][]bool {
	all := [][][]bool{nil}
	for _, d := range l {
		var longer [][][]bool
		loose := len(d.Loose())
		for _, one := range all {
			for _, kept := range choices(loose) {
				keeps := make([]bool, loose)
				for _, i := range kept {
					keeps[i] = true
				}
				longer = append(longer, append(slices.Clone(one), keeps))
			}
		}
		all = longer
	}
	return all
}

// crashed are clones of drives behind a crash that keeps so.
func crashed(l drives, keeps [][]bool) drives {
	l = clones(l)
	for i, d := range l {
		d.Crash(keeps[i])
	}
	return l
}

// eachCrash does so for each change at which a life is stopped, one beyond all, and each way to crash: it hands on the drives, and what was answered.
func (x life) eachCrash(t *testing.T, what string, do func(what string, l drives, err api.Errno)) {
	t.Helper()
	base, _ := begun(t, x.s)
	for n := 0; ; n++ {
		l, p := x.start(t, base)
		err := x.does(t, what, l, p, x.s.everywhere(n))
		if err != api.OK {
			want(t, fmt.Sprintf("%s, stopped at %d", what, n), err, api.ErrBroken)
		}
		for _, keeps := range keepings(l) {
			do(fmt.Sprintf("%s on %v, stopped at %d, kept %v", what, x.s, n, keeps), crashed(l, keeps), err)
		}
		if err == api.OK {
			return
		}
	}
}

// ends are what all objects may be behind all that: as ahead of the call, and as behind it.
func (x life) ends(t *testing.T) (ahead, behind []string) {
	t.Helper()
	base, _ := begun(t, x.s)
	l, p := x.start(t, base)
	ahead = tells(t, l, x.s, x.paths()...)
	want(t, "without a fuse", x.does(t, "the end", l, p, nil), api.OK)
	return ahead, tells(t, l, x.s, x.paths()...)
}

// wantEnd asks whether all objects are as ahead of a call, or all as behind it, and as behind it, if that answered OK.
func wantEnd(t *testing.T, what string, got, ahead, behind []string, err api.Errno) {
	t.Helper()
	if !slices.Equal(got, behind) && (!slices.Equal(got, ahead) || err == api.OK) {
		t.Errorf("%s, answered %v:\n%s; want\n%s, or\n%s", what, err, strings.Join(got, "\n"), strings.Join(behind, "\n"), strings.Join(ahead, "\n"))
	}
}

// wantTidy asks whether drives that were opened have their formats, and nothing that is staged or loose, or that no journal tells of; and whether HealAll brings all of a set to the same files.
func wantTidy(t *testing.T, what string, l drives, s shape) {
	t.Helper()
	l = clones(l)
	p := opened(t, l, s)
	must(t, p, healAll())
	for i, d := range l {
		has := filesOf(d)
		if has["format"].b != string(s.formats()[i]) || len(d.Loose()) > 0 {
			t.Errorf("%s: drive %d has %s", what, i, shown(has))
		}
		first := namesOf(l[i-i%s.each()])
		if !slices.Equal(namesOf(d), first) || strings.Contains(strings.Join(first, " "), "tmp/") {
			t.Errorf("%s: drive %d has %s; the first one of its set %q", what, i, shown(has), first)
		}
		versions := 0
		for name, f := range has {
			if j, err := journal.Read([]byte(f.b)); err == api.OK && name != "boot" {
				versions += len(slices.DeleteFunc(j.Records, func(r api.Record) bool { return r.Mark }))
			}
			if strings.HasPrefix(name, "s/") {
				versions--
			}
		}
		if versions != 0 {
			t.Errorf("%s: drive %d has %s", what, i, shown(has))
		}
	}
}

// TestStopped: whichever change a fuse stops, of any call or of an opening, and whatever is kept of the loose: opened anew, all objects are as ahead of the call, or as behind it (P15.5).
func TestStopped(t *testing.T) {
	eachLife(t, []shape{{1, 1, 1}, {1, 1, 2}, {2, 1, 2}, {1, 2, 1}}, func(t *testing.T, what string, x life) {
		ahead, behind := x.ends(t)
		x.eachCrash(t, what, func(what string, l drives, err api.Errno) {
			_, opening := opens(t, what, l, x.s, nil)
			want(t, what, opening, api.OK)
			wantEnd(t, what, tells(t, l, x.s, x.paths()...), ahead, behind, err)
			wantTidy(t, what, l, x.s)
		})
	})
}

// TestOpenStopped: the opening behind that is stopped, too, at each of its changes, crashes, and is begun again: it comes to the same.
func TestOpenStopped(t *testing.T) {
	eachLife(t, []shape{{1, 1, 2}, {1, 2, 1}}, func(t *testing.T, what string, x life) {
		ahead, behind := x.ends(t)
		x.eachCrash(t, what, func(what string, begun drives, err api.Errno) {
			for n := 0; ; n++ {
				l := clones(begun)
				_, opening := opens(t, what, l, x.s, x.s.everywhere(n))
				line := fmt.Sprint(what, ", Open stopped at ", n)
				if opening != api.OK {
					want(t, line, opening, api.ErrBroken)
				}
				for _, keeps := range keepings(l) {
					l := crashed(l, keeps)
					_, again := opens(t, line, l, x.s, nil)
					want(t, line, again, api.OK)
					wantEnd(t, line, tells(t, l, x.s, x.paths()...), ahead, behind, err)
				}
				if opening == api.OK {
					break
				}
			}
		})
	})
}

// TestOpenStoppedOften: stopped again and again, each time a bit later.
func TestOpenStoppedOften(t *testing.T) {
	eachLife(t, []shape{{1, 1, 2}, {2, 1, 1}}, func(t *testing.T, what string, x life) {
		ahead, behind := x.ends(t)
		x.eachCrash(t, what, func(what string, l drives, err api.Errno) {
			tries := 0
			for n := 0; ; n++ {
				_, opening := opens(t, what, l, x.s, x.s.everywhere(n))
				for i, d := range l {
					d.Crash([]bool{(n+i)%2 == 0})
				}
				if opening == api.OK {
					break
				}
				want(t, what, opening, api.ErrBroken)
				tries++
			}
			if least := 3 * x.s.all(); tries < least {
				t.Errorf("%s: the boot files alone are %d changes, but %d tries were stopped", what, least, tries)
			}
			wantEnd(t, what, tells(t, l, x.s, x.paths()...), ahead, behind, err)
			wantTidy(t, what, l, x.s)
		})
	})
}

// TestStoppedAway: with each choice of drives of each set that are away when all is opened anew, as long as k + 1 are there; when they are back, and when all is opened once more, all is as it was told.
func TestStoppedAway(t *testing.T) {
	eachLife(t, []shape{{1, 2, 1}, {1, 2, 2}}, func(t *testing.T, what string, x life) {
		if x.spoil != nil {
			// Drives that lack files are no part of the k + 1.
			return
		}
		ahead, behind := x.ends(t)
		x.eachCrash(t, what, func(what string, begun drives, err api.Errno) {
			for _, gone := range [][]int{{0}, {1}, {2}, {x.s.all() - 1}, {x.s.all() - 3}, {0, x.s.all() - 1}, {1, x.s.all() - 2}} {
				if x.s.sets == 1 && len(gone) > 1 {
					continue
				}
				l := clones(begun)
				away(l, gone...)
				line := fmt.Sprint(what, ", away ", gone)
				_, opening := opens(t, line, l, x.s, nil)
				want(t, line, opening, api.OK)
				told := tells(t, l, x.s, x.paths()...)
				wantEnd(t, line, told, ahead, behind, err)
				for range 2 {
					back(l)
					if got := tells(t, l, x.s, x.paths()...); !slices.Equal(got, told) {
						t.Errorf("%s, back: %s; want %s", line, got, told)
					}
					_, opening = opens(t, line, l, x.s, nil)
					want(t, line, opening, api.OK)
				}
				wantTidy(t, line, l, x.s)
			}
		})
	})
}

// TestStoppedNoQuorum: a write that is not done for want of drives, stopped anywhere: it is not done.
func TestStoppedNoQuorum(t *testing.T) {
	s := shape{2, 1, 2}
	base, _ := begun(t, s)
	for set, paths := range pathsOf(2, 2) {
		for _, at := range s.places(set) {
			for why, disable := range map[string]func(l drives){"away": func(l drives) { away(l, at) }, "full": func(l drives) { l[at].Full(true) }} {
				for _, c := range []call{put(paths[0], version("x", 500), text(50, 4)), put(paths[0], mark("y", 500), nil), drop(paths[0], "m")} {
					ahead := tells(t, base, s, slices.Concat(pathsOf(2, 2)...)...)
					for n := range 14 {
						l := clones(base)
						p := opened(t, l, s)
						disable(l)
						what := fmt.Sprintf("%v, %d %s, stopped at %d", c, at, why, n)
						if got := step(t, what, p, l, c, s.everywhere(n)); got.err != api.ErrBroken && got.err != api.ErrQuorum {
							t.Errorf("%s: %v", what, got)
						}
						for _, d := range l {
							d.Crash(nil)
						}
						for range 2 {
							if got := tells(t, l, s, slices.Concat(pathsOf(2, 2)...)...); !slices.Equal(got, ahead) {
								t.Errorf("%s: %s; want %s", what, got, ahead)
							}
							opened(t, l, s)
							back(l)
						}
					}
				}
			}
		}
	}
}

// TestAcknowledged: what was answered with OK is there behind a crash of all drives, whatever is kept of each, and whichever of them are away then, as long as k are there.
func TestAcknowledged(t *testing.T) {
	for _, s := range []shape{{1, 1, 2}, {2, 1, 2}, {1, 2, 2}} {
		base, p := begun(t, s)
		all := slices.Concat(pathsOf(s.sets, 2)...)
		must(t, p, put(all[0], version("z", 600), text(90, 6)), drop(all[1], "x"), put(all[2], mark("y", 601), nil))
		wanted := tells(t, base, s, all...)
		for _, gone := range choices(s.all()) {
			l := clones(base)
			for i, d := range l {
				if len(d.Loose()) > 0 {
					t.Errorf("drive %d has loose files: %q", i, d.Loose())
				}
				d.Crash(nil)
			}
			away(l, gone...)
			if _, err := opens(t, "away", l, s, nil); err == api.OK {
				if got := tells(t, l, s, all...); !slices.Equal(got, wanted) {
					t.Errorf("%v, %v away: %s; want %s", s, gone, got, wanted)
				}
			}
		}
	}
}
