package manifest

import (
	"fmt"
	"slices"
	"testing"

	"stagepost/api"
	"stagepost/vfs"
)

// These are the tests of P10.3.

func TestOpenOverNothing(t *testing.T) {
	f := newFS(t, 1000)
	tells(t, f, one(), 1)
	if f.Pending() != 0 || f.Steps() != 9 {
		t.Errorf("%d steps are pending of %d", f.Pending(), f.Steps())
	}
	done(t, f.Crash(0, 0))
	names(t, f, "current", named(1))
	tells(t, f, one(), 2)
	// The old file's name is the last one that goes, and that is not synced.
	if f.Pending() != 1 || f.Steps() != 19 {
		t.Errorf("%d steps are pending of %d", f.Pending(), f.Steps())
	}
	done(t, f.Crash(0, 0))
	names(t, f, "current", named(1), named(2))
	reads(t, f, "current", pointing(2))
}

// TestOpenLeavesOtherFiles: those that are nearly named so, and files of other numbers, are neither read nor removed.
func TestOpenLeavesOtherFiles(t *testing.T) {
	f := newFS(t, 10000)
	others := []string{"manifest-00001", "manifest-0000001", "manifest-000000", "manifest-000007", "manifest-00000a", "manifest", "Current", "current.ne", "current.new1", "wal-000001", "sst-000001"}
	for _, name := range others {
		holding(t, f, name, []byte("these are no frames"))
	}
	m := opened(t, f)
	is(t, m, one(), 1)
	m = opened(t, f)
	is(t, m, one(), 2)
	want := append(slices.Clone(others), "current", named(2))
	slices.Sort(want)
	names(t, f, want...)
	for _, name := range others {
		reads(t, f, name, []byte("these are no frames"))
	}
}

func TestOpenKnowsTheVersionThatTheEditsMake(t *testing.T) {
	for what, v := range goodVersions() {
		if len(whole(v)) > 1<<20 {
			continue // see TestOpenOfAVersionThatIsLongerThanAFrame
		}
		f := laid(t, 41, whole(v))
		tells(t, f, v, 42)
		if tells(t, f, v, 43); t.Failed() {
			t.Fatalf("this was %s", what)
		}
	}
	// Several edits, one behind the other.
	a, b, c, d := meta(1, 0, 3, "a", "c"), meta(2, 0, 3, "b", "d"), meta(3, 1, 6, "a", "d"), meta(4, 0, 1, "e", "e")
	steps := []api.Edit{
		edit(nil, metas(a), 2, 5, 2), edit(nil, metas(b), 3, 9, 3), edit(numbers(2, 1), metas(c), 3, 9, 4),
		edit(nil, nil, 3, 9, 4), edit(nil, metas(d), 4, 10, 9), edit(numbers(3, 4), nil, 4, 10, 9),
	}
	versions := []api.Version{
		version(2, 5, 2, a), version(3, 9, 3, b, a), version(3, 9, 4, c),
		version(3, 9, 4, c), version(4, 10, 9, d, c), version(4, 10, 9),
	}
	for n, v := range versions {
		f := laid(t, 7, framesOf(steps[:n+1]...))
		tells(t, f, v, 8)
		tells(t, f, v, 9)
	}
}

func TestOpenOfNoFileSystem(t *testing.T) {
	var none vfs.FS
	for _, f := range []*vfs.FS{nil, {}, &none, new(vfs.FS)} {
		if m, e := Open(f); m != nil || e != api.ErrNil {
			t.Errorf("Open: %v, %d", m != nil, e)
		}
	}
}

// TestOpenOfAFileSystemThatIsOff: ahead of all that may be wrong with its files.
func TestOpenOfAFileSystemThatIsOff(t *testing.T) {
	for what, f := range map[string]*vfs.FS{
		"a new one":           newFS(t, 100),
		"one with a manifest": laid(t, 3, whole(sample())),
		"one that is altered": laid(t, 3, []byte("these are no frames")),
		"one without numbers": laid(t, 999999, whole(sample())),
	} {
		off(t, f)
		refuses(t, what, f, api.ErrOff)
	}
	f := newFS(t, 100)
	holding(t, f, "current", nil)
	off(t, f)
	refuses(t, "one with an empty `current`", f, api.ErrOff)
	done(t, f.Crash(0, 0))
	refuses(t, "the same, on", f, api.ErrCorrupt)
}

// current lays a file system with a whole file of the number 3, and these bytes as `current`.
func current(t testing.TB, b []byte) *vfs.FS {
	t.Helper()
	f := newFS(t, 100000)
	holding(t, f, named(3), whole(sample()))
	holding(t, f, "current", b)
	return f
}

func TestOpenOfACurrentThatIsNoFrame(t *testing.T) {
	good := pointing(3)
	tells(t, current(t, good), sample(), 4)
	for n := range good {
		refuses(t, fmt.Sprint(n, " bytes of it"), current(t, good[:n]), api.ErrCorrupt)
		refuses(t, fmt.Sprint("all but ", n+1, " bytes of it"), current(t, good[n+1:]), api.ErrCorrupt)
		refuses(t, fmt.Sprint("it, and ", n+1, " bytes of it"), current(t, slices.Concat(good, good[:n+1])), api.ErrCorrupt)
		other := slices.Clone(good)
		other[n] ^= 4
		refuses(t, fmt.Sprint("it, altered at ", n), current(t, other), api.ErrCorrupt)
	}
	for what, b := range map[string][]byte{
		"no frame":             []byte("these are no frames"),
		"the name alone":       []byte(named(3)),
		"two names":            slices.Concat(pointing(2), good),
		"an empty frame ahead": slices.Concat(framed(nil), good),
		"an empty frame":       framed(nil),
		"a byte behind it":     append(slices.Clone(good), 0),
		"a byte ahead of it":   append([]byte{0}, good...),
	} {
		refuses(t, what, current(t, b), api.ErrCorrupt)
	}
}

func TestOpenOfACurrentOfAnotherName(t *testing.T) {
	for _, name := range []string{
		"", "manifest", "manifest-", "manifest-3", "manifest-03", "manifest-00003", "manifest-0000003", "manifest-000000", "manifest-+00003", "manifest--00003",
		"manifest-00_003", "manifest-0x0003", "manifest-00000a", "manifest- 00003", "manifest-00003 ", " manifest-000003", "manifest-000003 ", "manifest-000003\x00", "manifest-000003\n",
		"Manifest-000003", "manifest_000003", "manifest000003", "000003", "manifest-manifest-000003", "manifest-1000000", "manifest-1000003", "wal-000003", "sst-000003", "current", "current.new",
		"manifest-\uff10\uff10\uff10\uff10\uff10\uff13", "manifest-99999999999999999999999", "manifest--99999999999999999999", "manifest-000003manifest-000003", long(70000),
	} {
		f := current(t, framed([]byte(name)))
		if len(name) <= 32 && f.Create(name) == api.OK {
			// It is not its being missing that is wrong.
			done(t, f.Append(name, whole(sample())), f.Sync(name), f.SyncNames())
		}
		refuses(t, fmt.Sprintf("the name %.40q", name), f, api.ErrCorrupt)
	}
}

func TestOpenOfEachNumber(t *testing.T) {
	for _, n := range []int{1, 2, 9, 10, 99, 100, 12345, 99999, 100000, 999997, 999998} {
		tells(t, laid(t, n, whole(sample())), sample(), n+1)
	}
	// No number is left behind the last one; what is altered is told ahead of that.
	refuses(t, "the last number", laid(t, 999999, whole(sample())), api.ErrLong)
	refuses(t, "the last number, no record", laid(t, 999999, nil), api.ErrCorrupt)
	refuses(t, "the last number, altered", laid(t, 999999, []byte("these are no frames")), api.ErrCorrupt)
	f := newFS(t, 1000)
	holding(t, f, "current", pointing(999999))
	refuses(t, "the last number, not held", f, api.ErrCorrupt)
	f = laid(t, 999998, whole(sample()))
	m := opened(t, f)
	is(t, m, sample(), 999999)
	refuses(t, "behind the last number", f, api.ErrLong)
	added(t, m, edit(numbers(9), nil, 3, 70, 12), version(3, 70, 12, sample().Tables[1:]...))
}

func TestOpenWhereTheFileIsMissing(t *testing.T) {
	for _, n := range []int{1, 3, 999998} {
		f := newFS(t, 1000)
		holding(t, f, "current", pointing(n))
		refuses(t, "no file", f, api.ErrCorrupt)
		holding(t, f, named(n+1), whole(sample()))
		holding(t, f, "current.new", pointing(n+1))
		refuses(t, "files of other names", f, api.ErrCorrupt)
	}
}

// TestOpenPassesOverATornEnd tears a file at each of its bytes: the edits that are whole count.
func TestOpenPassesOverATornEnd(t *testing.T) {
	steps := []api.Edit{From(sample()), edit(numbers(9, 6), nil, 3, 71, 13), edit(nil, metas(meta(13, 0, 1, long(70), long(90))), 4, 80, 14)}
	b := framesOf(steps...)
	for cut := range len(b) + 1 {
		f := laid(t, 3, b[:cut])
		v, n := one(), 0
		for n < len(steps) && len(framesOf(steps[:n+1]...)) <= cut {
			v, _ = behindModel(v, steps[n])
			n++
		}
		if n == 0 {
			refuses(t, fmt.Sprint("no record in ", cut, " bytes"), f, api.ErrCorrupt)
			continue
		}
		tells(t, f, v, 4)
	}
}

func TestOpenOfAnAlteredFile(t *testing.T) {
	b := framesOf(From(sample()), edit(numbers(9, 6), nil, 3, 71, 13))
	for i := range b {
		for _, bits := range []byte{1, 128, 255} {
			other := slices.Clone(b)
			other[i] ^= bits
			refuses(t, fmt.Sprint("altered at ", i), laid(t, 3, other), api.ErrCorrupt)
			// A torn end behind it doesn't hide it.
			refuses(t, fmt.Sprint("altered at ", i, ", and torn"), laid(t, 3, slices.Concat(other, b[:30])), api.ErrCorrupt)
		}
	}
	refuses(t, "other bytes behind it", laid(t, 3, slices.Concat(b, []byte("these are no frames"))), api.ErrCorrupt)
	refuses(t, "other bytes", laid(t, 3, []byte("these are no frames")), api.ErrCorrupt)
}

func TestOpenOfARecordThatIsNoEdit(t *testing.T) {
	first := From(sample())
	good := plain(edit(nil, nil, 3, 70, 12))
	for what, r := range map[string][]byte{
		"no bytes":         nil,
		"other bytes":      []byte("these are no edits"),
		"a byte more":      append(slices.Clone(good), 0),
		"a byte less":      good[:len(good)-1],
		"two edits in one": slices.Concat(good, good),
		"a needless byte":  {0, 0, 3, 70, 140, 0},
		"a Seq too great":  plain(edit(nil, nil, 3, 1<<30+1, 12)),
		"the drop 0":       plain(edit(numbers(0), nil, 3, 70, 12)),
	} {
		b := framed(r)
		refuses(t, what+", alone", laid(t, 3, b), api.ErrCorrupt)
		refuses(t, what+", behind one", laid(t, 3, slices.Concat(framesOf(first), b)), api.ErrCorrupt)
		refuses(t, what+", between two", laid(t, 3, slices.Concat(framesOf(first), b, framed(good))), api.ErrCorrupt)
		refuses(t, what+", ahead of a torn end", laid(t, 3, slices.Concat(framesOf(first), b, framed(good)[:9])), api.ErrCorrupt)
	}
	tells(t, laid(t, 3, slices.Concat(framesOf(first), framed(good), framed(good)[:9])), sample(), 4)
}

func TestOpenOfAnEditThatDoesNotGo(t *testing.T) {
	v := sample()
	for what, e := range map[string]api.Edit{
		"a drop that is not there":  edit(numbers(3), nil, 3, 70, 12),
		"a drop twice":              edit(numbers(9, 9), nil, 3, 70, 12),
		"a drop that it adds":       edit(numbers(12), metas(meta(12, 0, 1, "a", "b")), 3, 70, 13),
		"a Number that is there":    edit(nil, metas(meta(9, 0, 1, "a", "b")), 3, 70, 13),
		"a Number that is Next":     edit(nil, metas(meta(12, 0, 1, "a", "b")), 3, 70, 12),
		"a key that is there":       edit(nil, metas(meta(12, 1, 1, "c", "c")), 3, 70, 13),
		"the Log of the one before": edit(nil, nil, 2, 70, 12),
		"a Seq that falls":          edit(nil, nil, 3, 69, 12),
		"a Next that falls":         edit(nil, nil, 3, 70, 11),
		"the first one again":       From(v),
	} {
		refuses(t, what, laid(t, 3, framesOf(From(v), e)), api.ErrCorrupt)
		refuses(t, what+", ahead of another one", laid(t, 3, framesOf(From(v), e, edit(nil, nil, 999999, 1<<30, 999999))), api.ErrCorrupt)
		refuses(t, what+", ahead of a torn end", laid(t, 3, slices.Concat(framesOf(From(v), e), framesOf(e)[:12])), api.ErrCorrupt)
	}
	// The first one goes behind the first version.
	for what, e := range map[string]api.Edit{
		"a drop":                  edit(numbers(1), nil, 1, 0, 1),
		"two tables of a Number":  edit(nil, metas(meta(1, 0, 1, "a", "b"), meta(1, 1, 1, "a", "b")), 1, 0, 2),
		"a Number that is Next":   edit(nil, metas(meta(1, 0, 1, "a", "b")), 1, 0, 1),
		"two that share a key":    edit(nil, metas(meta(1, 1, 1, "a", "b"), meta(2, 1, 1, "b", "c")), 1, 0, 3),
		"a drop of what it adds":  edit(numbers(1), metas(meta(1, 0, 1, "a", "b")), 1, 0, 2),
		"a drop of another table": edit(numbers(2), metas(meta(1, 0, 1, "a", "b")), 1, 0, 3),
	} {
		refuses(t, what, laid(t, 3, framesOf(e)), api.ErrCorrupt)
	}
	// Adds may stand in any order: the version has them in its own.
	turned := From(v)
	slices.Reverse(turned.Adds)
	tells(t, laid(t, 3, framesOf(turned)), v, 4)
}

// TestOpenCountsTablesAcrossEdits: 1,024 tables are there, one more is too many.
func TestOpenCountsTablesAcrossEdits(t *testing.T) {
	all := row(1025, 1, 1, 5)
	e := func(l []api.Meta) api.Edit { return edit(nil, l, 1, 0, 2000) }
	tells(t, laid(t, 3, framesOf(e(all[:1000]), e(all[1000:1024]))), version(1, 0, 2000, all[:1024]...), 4)
	refuses(t, "1,025 tables", laid(t, 3, framesOf(e(all[:1000]), e(all[1000:]))), api.ErrCorrupt)
}

// TestOpenWhereNamesAreHeldAlready: what an Open left that went off is removed, whatever it is.
func TestOpenWhereNamesAreHeldAlready(t *testing.T) {
	for _, left := range [][]byte{nil, []byte("these are no frames"), whole(version(9, 9, 9)), make([]byte, 3000)} {
		f := laid(t, 3, whole(sample()))
		holding(t, f, named(4), left)
		steps := f.Steps()
		tells(t, f, sample(), 4)
		size := (len(whole(sample())) + 63) / 64
		if got := f.Steps() - steps; got != 1+1+size+1+1+1+1+1+1+1+1 {
			t.Errorf("%d raw steps with the new file's name held", got)
		}

		f = laid(t, 3, whole(sample()))
		holding(t, f, "current.new", left)
		steps = f.Steps()
		tells(t, f, sample(), 4)
		if got := f.Steps() - steps; got != 1+size+1+1+1+1+1+1+1+1+1 {
			t.Errorf("%d raw steps with `current.new` held", got)
		}

		f = newFS(t, 10000)
		holding(t, f, named(1), left)
		holding(t, f, "current.new", left)
		tells(t, f, one(), 1)
	}
}

// TestOpenNeedsRoomForBoth: the old file and the new one are there at once, and `current` twice.
func TestOpenNeedsRoomForBoth(t *testing.T) {
	size, name := len(whole(sample())), len(pointing(1))
	for _, room := range []int{2*size + 2*name, 2*size + 2*name + 1} {
		f := newFS(t, room)
		holding(t, f, named(3), whole(sample()))
		holding(t, f, "current", pointing(3))
		tells(t, f, sample(), 4)
	}
	for room := size + name; room < 2*size+2*name; room += 3 {
		f := newFS(t, room)
		holding(t, f, named(3), whole(sample()))
		holding(t, f, "current", pointing(3))
		for range 3 {
			if m, e := Open(f); m != nil || e != api.ErrFull {
				t.Fatalf("a room of %d: %v, %d", room, m != nil, e)
			}
			// What was done ahead stays done, and `current` names the old file still.
			reads(t, f, "current", pointing(3))
			reads(t, f, named(3), whole(sample()))
			if room < 2*size+name {
				names(t, f, "current", named(3), named(4))
				reads(t, f, named(4), nil)
			} else {
				names(t, f, "current", "current.new", named(3), named(4))
				reads(t, f, named(4), whole(sample()))
				reads(t, f, "current.new", nil)
			}
		}
	}
	// What is there already of a new file gives its room back.
	f := newFS(t, 2*size+2*name)
	holding(t, f, named(3), whole(sample()))
	holding(t, f, "current", pointing(3))
	holding(t, f, named(4), make([]byte, size))
	holding(t, f, "current.new", make([]byte, name))
	tells(t, f, sample(), 4)
	// On a new one, too.
	for room := range 60 {
		m, e := Open(newFS(t, room))
		if want := len(whole(one())) + name; (e == api.OK) != (room >= want) || (m != nil) != (e == api.OK) || e != api.OK && e != api.ErrFull {
			t.Errorf("a room of %d: %v, %d", room, m != nil, e)
		}
	}
}

// TestRoomIsMadeAnew: an ErrFull of Open passes, as soon as there is room.
func TestRoomIsMadeAnew(t *testing.T) {
	size, name := len(whole(sample())), len(pointing(1))
	for missing := 1; missing < size+name; missing++ {
		f := newFS(t, 3*size+2*name-missing)
		holding(t, f, named(3), whole(sample()))
		holding(t, f, "current", pointing(3))
		holding(t, f, "other", make([]byte, size))
		if m, e := Open(f); m != nil || e != api.ErrFull {
			t.Fatalf("%d bytes are missing: %v, %d", missing, m != nil, e)
		}
		done(t, f.Remove("other"))
		if missing <= size {
			tells(t, f, sample(), 4)
		}
	}
}

// byHand are the calls to the file system that Open does behind its reading, by the words of the chapter.
func byHand(f *vfs.FS, old int, v api.Version) []func() api.Errno {
	file := named(old + 1)
	held := func(name string) func() api.Errno {
		return func() api.Errno {
			if slices.Contains(f.Names(), name) {
				return f.Remove(name)
			}
			return api.OK
		}
	}
	all := []func() api.Errno{
		held(file),
		func() api.Errno { return f.Create(file) },
		func() api.Errno { return f.Append(file, whole(v)) },
		func() api.Errno { return f.Sync(file) },
		held("current.new"),
		func() api.Errno { return f.Create("current.new") },
		func() api.Errno { return f.Append("current.new", pointing(old+1)) },
		func() api.Errno { return f.Sync("current.new") },
		f.SyncNames,
		func() api.Errno { return f.Rename("current.new", "current") },
		f.SyncNames,
	}
	if old > 0 {
		all = append(all, func() api.Errno { return f.Remove(named(old)) })
	}
	return all
}

// inTurn does the calls up to the first that is refused.
func inTurn(all []func() api.Errno) api.Errno {
	for _, call := range all {
		if e := call(); e != api.OK {
			return e
		}
	}
	return api.OK
}

// grounds are file systems as Open may meet them, each with the number of the file that there is, and its version.
func grounds(t testing.TB) map[string]func() (*vfs.FS, int, api.Version) {
	t.Helper()
	with := func(f *vfs.FS, names ...string) *vfs.FS {
		for _, name := range names {
			holding(t, f, name, []byte("left behind"))
		}
		return f
	}
	return map[string]func() (*vfs.FS, int, api.Version){
		"a new one":                 func() (*vfs.FS, int, api.Version) { return newFS(t, 10000), 0, one() },
		"a new one with both names": func() (*vfs.FS, int, api.Version) { return with(newFS(t, 10000), named(1), "current.new"), 0, one() },
		"one with a file":           func() (*vfs.FS, int, api.Version) { return laid(t, 2, whole(sample())), 2, sample() },
		"one with both names": func() (*vfs.FS, int, api.Version) {
			return with(laid(t, 2, whole(sample())), named(3), "current.new"), 2, sample()
		},
		"one with a torn end": func() (*vfs.FS, int, api.Version) {
			return laid(t, 2, slices.Concat(whole(sample()), framesOf(edit(numbers(9), nil, 3, 70, 12))[:9])), 2, sample()
		},
		"one with names that are pending": func() (*vfs.FS, int, api.Version) {
			f := with(laid(t, 2, whole(sample())), "other")
			done(t, f.Remove("other"), f.Create("more"), f.Append("more", []byte("x")), f.Create(named(3)))
			return f, 2, sample()
		},
	}
}

// TestOpenDoesItsStepsInTheirOrder burns a fuse down at each raw step of Open, and of the same steps done by hand: what is held and what is left behind each Crash is the same.
func TestOpenDoesItsStepsInTheirOrder(t *testing.T) {
	for what, ground := range grounds(t) {
		for fuse := 0; ; fuse++ {
			f, _, _ := ground()
			pending := f.Pending()
			done(t, f.Fuse(fuse))
			m, e := Open(f)
			if e != api.OK && (e != api.ErrOff || m != nil) {
				t.Fatalf("%s, Fuse(%d): %v, %d", what, fuse, m != nil, e)
			}
			for k := range fuse + pending + 1 {
				for _, part := range []int{0, 20} {
					f, old, v := ground()
					g, _, _ := ground()
					done(t, f.Fuse(fuse), g.Fuse(fuse))
					_, got := Open(f)
					want := inTurn(byHand(g, old, v))
					if got != want || look(f) != look(g) {
						t.Fatalf("%s, Fuse(%d): Open %d\n%s\nby hand %d\n%s", what, fuse, got, look(f), want, look(g))
					}
					done(t, f.Crash(k, part), g.Crash(k, part))
					if look(f) != look(g) {
						t.Fatalf("%s, Fuse(%d), Crash(%d, %d): of Open\n%s\nby hand\n%s", what, fuse, k, part, look(f), look(g))
					}
				}
			}
			if e == api.OK {
				if fuse < 9 {
					t.Errorf("%s: Open does just %d raw steps", what, fuse)
				}
				break
			}
		}
	}
}

// TestOpenOfAVersionThatIsLongerThanAFrame: its tables' words have more bytes than a record may have, so that there is no frame of From. It is written down as two edits, and nothing is lost.
func TestOpenOfAVersionThatIsLongerThanAFrame(t *testing.T) {
	v := version(5, 6, 1025, row(1024, 2, 1, 512)...)
	if len(plain(From(v))) <= 1<<20 {
		t.Fatalf("it has just %d bytes", len(plain(From(v))))
	}
	f := newFS(t, 1<<23)
	m := opened(t, f)
	for i := 0; i < 1024; i += 256 {
		if e := m.Add(edit(nil, v.Tables[i:i+256], 5, 6, 1025)); e != api.OK {
			t.Fatalf("Add: %d", e)
		}
	}
	for n := 2; n < 5; n++ {
		m = opened(t, f)
		is(t, m, v, n)
		names(t, f, "current", named(n))
		reads(t, f, named(n), framesOf(edit(nil, v.Tables[:512], 5, 6, 1025), edit(nil, v.Tables[512:], 5, 6, 1025)))
	}
	// Without some of its tables it is short enough for one.
	v.Tables = v.Tables[:1010]
	var drops []int
	for n := 1011; n <= 1024; n++ {
		drops = append(drops, n)
	}
	added(t, m, edit(drops, nil, 5, 6, 1025), v)
	tells(t, f, v, 5)
}
