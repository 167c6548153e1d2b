package manifest

import (
	"slices"
	"strings"
	"testing"

	"stagepost/api"
	"stagepost/vfs"
)

// These are the tests of P10.4.

// known is a manifest that knows this version, in the file with the number 4, over a file system with so much room left.
func known(t testing.TB, v api.Version, left int) (*vfs.FS, *Manifest) {
	t.Helper()
	size := len(whole(v)) + len(pointing(4))
	f := newFS(t, 2*size+left)
	holding(t, f, named(3), whole(v))
	holding(t, f, "current", pointing(3))
	m := tells(t, f, v, 4)
	// What goes with the old file is filled, so that just this much is left.
	holding(t, f, "other", make([]byte, f.Left()-left))
	if f.Left() != left {
		t.Fatalf("%d are left, not %d", f.Left(), left)
	}
	return f, m
}

func TestAddWritesOneFrame(t *testing.T) {
	f := newFS(t, 100000)
	m := opened(t, f)
	v, want := one(), whole(one())
	for _, e := range []api.Edit{
		edit(nil, metas(meta(1, 0, 3, "a", "c")), 2, 5, 2),
		edit(nil, metas(meta(2, 0, 3, "a", "c"), meta(3, 1, 9, "b", long(300))), 2, 9, 4),
		edit(numbers(2, 1), metas(meta(4, 2, 6, "a", "c")), 3, 9, 5),
		edit(nil, nil, 3, 9, 5),
		edit(nil, nil, 999999, 1<<30, 999999),
		edit(numbers(3, 4), nil, 999999, 1<<30, 999999),
	} {
		steps := f.Steps()
		next, _ := behindModel(v, e)
		added(t, m, e, next)
		v, want = next, append(want, framesOf(e)...)
		reads(t, f, named(1), want)
		if d, ok := f.Durable(named(1)); !ok || !slices.Equal(d, want) {
			t.Errorf("%d bytes are durable, %v; not %d", len(d), ok, len(want))
		}
		// Raw writes of 64 bytes, and a sync.
		if raws := (len(framesOf(e)) + 63) / 64; f.Steps() != steps+raws+1 || f.Pending() != 0 {
			t.Errorf("%d raw steps, not %d; %d are pending", f.Steps()-steps, raws+1, f.Pending())
		}
		names(t, f, "current", named(1))
		is(t, m, v, 1)
	}
	done(t, f.Crash(0, 0))
	tells(t, f, v, 2)
}

// TestAddGoesOnBehindWhatIsKnown: behind an Open, too.
func TestAddGoesOnBehindWhatIsKnown(t *testing.T) {
	f := laid(t, 3, whole(sample()))
	m := tells(t, f, sample(), 4)
	e := edit(numbers(9, 4), metas(meta(12, 1, 7, "a", "b")), 4, 71, 13)
	v, _ := behindModel(sample(), e)
	added(t, m, e, v)
	reads(t, f, named(4), slices.Concat(whole(sample()), framesOf(e)))
	m = tells(t, f, v, 5)
	e = edit(nil, nil, 5, 71, 13)
	v.Log = 5
	added(t, m, e, v)
	reads(t, f, named(5), slices.Concat(framesOf(edit(nil, v.Tables, 4, 71, 13)), framesOf(e)))
	tells(t, f, v, 6)
}

func TestAddOfEditsThatHaveNoBytes(t *testing.T) {
	f, m := known(t, sample(), 1<<20)
	good := meta(12, 2, 1, "a", "b")
	for what, e := range map[string]api.Edit{
		"1,025 drops":    edit(upTo(1025), nil, 3, 70, 12),
		"1,025 adds":     edit(nil, row(1025, 0, 12, 4), 3, 70, 5000),
		"the drop 0":     edit(numbers(0), nil, 3, 70, 12),
		"a great drop":   edit(numbers(1000000), nil, 3, 70, 12),
		"the zero edit":  {},
		"a great Log":    edit(nil, metas(good), 1000000, 70, 13),
		"a great Seq":    edit(nil, metas(good), 3, 1<<30+1, 13),
		"a great Next":   edit(nil, metas(good), 3, 70, 1000000),
		"odd words":      edit(nil, metas(good, api.Meta{}), 3, 70, 13),
		"the Level 7":    edit(nil, metas(meta(12, 7, 1, "a", "b")), 3, 70, 13),
		"the Level -1":   edit(nil, metas(meta(12, -1, 1, "a", "b")), 3, 70, 13),
		"the Count 0":    edit(nil, metas(meta(12, 2, 0, "a", "b")), 3, 70, 13),
		"a great Count":  edit(nil, metas(meta(12, 2, 65537, "a", "b")), 3, 70, 13),
		"no First":       edit(nil, metas(meta(12, 2, 1, "", "b")), 3, 70, 13),
		"a long Last":    edit(nil, metas(meta(12, 2, 1, "a", long(513))), 3, 70, 13),
		"turned about":   edit(nil, metas(meta(12, 2, 1, "b", "a")), 3, 70, 13),
		"a Number above": edit(nil, metas(meta(1000000, 2, 1, "a", "b")), 3, 70, 13),
	} {
		if encodable(e) == api.OK {
			t.Errorf("%s: it has bytes", what)
		}
		rejects(t, f, m, what, e, encodable(e))
	}
	added(t, m, edit(nil, metas(good), 3, 70, 13), version(3, 70, 13, slices.Insert(sample().Tables, 6, good)...))
}

func TestAddOfEditsThatDoNotGo(t *testing.T) {
	f, m := known(t, sample(), 1<<20)
	for what, e := range map[string]api.Edit{
		"a drop that is not there":  edit(numbers(3), nil, 3, 70, 12),
		"a drop twice":              edit(numbers(9, 9), nil, 3, 70, 12),
		"a drop that it adds":       edit(numbers(12), metas(meta(12, 0, 1, "a", "b")), 3, 70, 13),
		"a Number that is there":    edit(nil, metas(meta(9, 0, 1, "a", "b")), 3, 70, 13),
		"a Number that is Next":     edit(nil, metas(meta(12, 0, 1, "a", "b")), 3, 70, 12),
		"the greatest Number":       edit(nil, metas(meta(999999, 0, 1, "a", "b")), 3, 70, 999999),
		"two of one Number":         edit(nil, metas(meta(12, 0, 1, "a", "b"), meta(12, 4, 1, "a", "b")), 3, 70, 13),
		"a key that is there":       edit(nil, metas(meta(12, 1, 1, "c", "c")), 3, 70, 13),
		"keys that share":           edit(nil, metas(meta(12, 2, 1, "c", "d"), meta(13, 2, 1, "d", "e")), 3, 70, 14),
		"a Log that falls":          edit(nil, nil, 2, 70, 12),
		"a Seq that falls":          edit(nil, nil, 3, 69, 12),
		"a Next that falls":         edit(nil, nil, 3, 70, 11),
		"the version itself":        From(sample()),
		"what makes the first one":  edit(numbers(9, 7, 6, 4, 8, 1, 2, 5, 11), nil, 1, 0, 1),
		"1,024 more than there are": edit(nil, row(1024, 5, 100, 5), 3, 70, 5000),
	} {
		if _, fault := behindModel(sample(), e); fault != api.ErrArg || encodable(e) != api.OK {
			t.Errorf("%s: it goes, or has no bytes", what)
		}
		rejects(t, f, m, what, e, api.ErrArg)
	}
	rejects(t, f, m, "what stays", edit(nil, nil, 3, 70, 11), api.ErrArg)
	added(t, m, edit(nil, nil, 3, 70, 12), sample())
}

func TestAddWhereThereIsNoRoom(t *testing.T) {
	e := edit(numbers(9), metas(meta(12, 0, 1, "a", long(70))), 4, 71, 13)
	v, _ := behindModel(sample(), e)
	size := len(framesOf(e))
	for left := range size {
		f, m := known(t, sample(), left)
		rejects(t, f, m, "no room", e, api.ErrFull)
	}
	f, m := known(t, sample(), size)
	added(t, m, e, v)
	if f.Left() != 0 {
		t.Errorf("%d are left", f.Left())
	}
	rejects(t, f, m, "no room at all", edit(nil, nil, 4, 71, 13), api.ErrFull)
	// It is not broken: as soon as there is room, it goes on.
	done(t, f.Remove("other"))
	added(t, m, edit(nil, nil, 4, 71, 14), version(4, 71, 14, v.Tables...))
}

func TestAddWhereLessThanNothingIsLeft(t *testing.T) {
	f := newFS(t, 100)
	m := opened(t, f)
	holding(t, f, "back", make([]byte, f.Left()))
	done(t, f.Remove("back"), f.Create("more"), f.Append("more", make([]byte, f.Left())), f.Sync("more"), f.Crash(0, 0))
	if f.Left() != 0 {
		t.Fatalf("%d are left", f.Left())
	}
	rejects(t, f, m, "nothing is left", edit(nil, nil, 1, 0, 1), api.ErrFull)
	done(t, f.Create("more"), f.Remove("back"), f.Append("more", make([]byte, 40)), f.Sync("more"), f.Crash(1, 0))
	if f.Left() != -40 {
		t.Fatalf("%d are left", f.Left())
	}
	rejects(t, f, m, "less than nothing is left", edit(nil, nil, 1, 0, 1), api.ErrFull)
}

// TestErrorsOfAddInTheirOrder has edits to which several errors apply (rule 1).
func TestErrorsOfAddInTheirOrder(t *testing.T) {
	f, m := known(t, sample(), 0)
	long := edit(upTo(1025), metas(api.Meta{}), 0, 0, 0)
	odd := edit(numbers(0), nil, 1, 0, 1)
	falls := edit(numbers(3), nil, 1, 0, 1)
	good := edit(nil, nil, 3, 70, 12)
	rejects(t, f, m, "too long, odd, falls, no room", long, api.ErrLong)
	rejects(t, f, m, "odd, falls, no room", odd, api.ErrArg)
	rejects(t, f, m, "falls, no room", falls, api.ErrArg)
	rejects(t, f, m, "no room", good, api.ErrFull)
	off(t, f)
	for _, e := range []api.Edit{long, odd, falls, good} {
		rejects(t, f, m, "off", e, api.ErrOff)
	}
	done(t, f.Crash(0, 0))
	for _, e := range []api.Edit{long, odd, falls, good} {
		rejects(t, f, m, "broken", e, api.ErrOff)
		var none *Manifest
		answers(t, "of none", none.Add(e), api.ErrNil)
	}
}

// TestAddOfAnEditThatIsLongerThanAFrame: it has bytes, and it goes, but no frame has room for it.
func TestAddOfAnEditThatIsLongerThanAFrame(t *testing.T) {
	tables := row(1024, 2, 1, 512)
	e := edit(nil, tables, 5, 6, 1025)
	f := newFS(t, 1<<23)
	m := opened(t, f)
	rejects(t, f, m, "too long for a frame", e, api.ErrLong)
	// That it does not go is told ahead of that, that there is no room behind it.
	e.Next = 1024
	rejects(t, f, m, "too long for a frame, and it does not go", e, api.ErrArg)
	e.Next = 1025
	small := newFS(t, 1000)
	rejects(t, small, opened(t, small), "too long for a frame, and no room", e, api.ErrLong)
	rejects(t, f, m, "a byte too long", ofBytes(t, 1<<20+1), api.ErrLong)
	e = ofBytes(t, 1<<20)
	v, _ := behindModel(one(), e)
	added(t, m, e, v)
	tells(t, f, v, 2)
}

// ofBytes is an edit that goes behind the first version, and has just n bytes, somewhat fewer than 1,024 tables of the longest keys have.
func ofBytes(t testing.TB, n int) api.Edit {
	t.Helper()
	// more is how many bytes a key of so many bytes needs beyond those of a key of one byte.
	more := func(i int) int { return i - 1 + min(1, i/128) }
	for k := 1000; k < 1024; k++ {
		e := edit(nil, append(row(k, 2, 1, 512), meta(1999, 3, 1, "x", "x")), 5, 6, 2000)
		least := len(plain(e))
		for _, first := range []int{1, 512} {
			for last := 1; last <= 512; last++ {
				if least+more(first)+more(last) == n {
					e.Adds[k].First, e.Adds[k].Last = long(first), strings.Repeat("y", last)
					return e
				}
			}
		}
	}
	t.Fatalf("no edit has %d bytes", n)
	return api.Edit{}
}

func TestAddWithAFuse(t *testing.T) {
	e := edit(numbers(9), metas(meta(12, 0, 1, "a", long(150))), 4, 71, 13)
	v, _ := behindModel(sample(), e)
	steps := (len(framesOf(e))+63)/64 + 1
	for n := range steps + 1 {
		f, m := known(t, sample(), 1000)
		was := f.Steps()
		done(t, f.Fuse(n))
		got := m.Add(e)
		if n == steps {
			if got != api.OK || !f.On() {
				t.Errorf("Fuse(%d): %d", n, got)
			}
			is(t, m, v, 4)
			continue
		}
		if got != api.ErrOff || f.On() || f.Steps() != was+n || f.Pending() != n {
			t.Errorf("Fuse(%d): %d, on %v, %d steps, %d pending", n, got, f.On(), f.Steps()-was, f.Pending())
		}
		// It knows the version that was acknowledged, and stays broken.
		is(t, m, sample(), 4)
		broken(t, f, m)
		done(t, f.Crash(0, 0))
		broken(t, f, m)
		is(t, m, sample(), 4)
		// Another one over the same file system is not.
		other := opened(t, f)
		is(t, other, sample(), 5)
		added(t, other, e, v)
		broken(t, f, m)
	}
}

// broken says that Add answers ErrOff, whatever it is handed, and changes nothing.
func broken(t testing.TB, f *vfs.FS, m *Manifest) {
	t.Helper()
	v := m.Version()
	for what, e := range map[string]api.Edit{
		"an edit that goes": edit(nil, nil, v.Log, v.Seq, v.Next),
		"one that doesn't":  edit(nil, nil, 1, 0, 1),
		"the zero edit":     {},
		"too long a one":    edit(upTo(1025), nil, 1, 0, 1),
	} {
		rejects(t, f, m, what+" of a broken manifest", e, api.ErrOff)
	}
}

// TestAFileSystemThatIsOff: it went off elsewhere. An Add that meets it so answers ErrOff, and the manifest is broken from then on.
func TestAFileSystemThatIsOff(t *testing.T) {
	f, m := known(t, sample(), 1000)
	off(t, f)
	is(t, m, sample(), 4)
	answers(t, "Add", m.Add(edit(nil, nil, 3, 70, 12)), api.ErrOff)
	broken(t, f, m)
	done(t, f.Crash(0, 0))
	broken(t, f, m)
	is(t, m, sample(), 4)
	// Refused else, it is broken as well: the file system was off in that call.
	f, m = known(t, sample(), 1000)
	off(t, f)
	answers(t, "Add of too many", m.Add(edit(upTo(1025), nil, 3, 70, 12)), api.ErrOff)
	done(t, f.Crash(0, 0))
	broken(t, f, m)
}

// TestOffBetweenTwoCalls: the file system went off and on again, and no Add met it so: the manifest is not broken.
func TestOffBetweenTwoCalls(t *testing.T) {
	f, m := known(t, sample(), 1000)
	off(t, f)
	is(t, m, sample(), 4)
	done(t, f.Crash(0, 0))
	added(t, m, edit(nil, nil, 4, 70, 12), version(4, 70, 12, sample().Tables...))
}

// TestWhatIsRefusedBurnsNoFuse: refused, Add does no raw step, and breaks nothing.
func TestWhatIsRefusedBurnsNoFuse(t *testing.T) {
	f, m := known(t, sample(), 20)
	done(t, f.Fuse(0))
	rejects(t, f, m, "too many", edit(upTo(1025), nil, 3, 70, 12), api.ErrLong)
	rejects(t, f, m, "odd", api.Edit{}, api.ErrArg)
	rejects(t, f, m, "falls", edit(nil, nil, 1, 70, 12), api.ErrArg)
	rejects(t, f, m, "no room", edit(nil, metas(meta(12, 2, 1, "a", long(30))), 3, 70, 13), api.ErrFull)
	if !f.On() {
		t.Errorf("it is off")
	}
	done(t, f.Safe())
	added(t, m, edit(nil, nil, 3, 70, 12), sample())
}

// TestAddWhereTheFileIsGone: another one was opened over the same file system, or somebody removed the file. What the file system says is passed on, and nothing changes.
func TestAddWhereTheFileIsGone(t *testing.T) {
	f := newFS(t, 1000)
	old := opened(t, f)
	m := opened(t, f)
	rejects(t, f, old, "the old one", edit(nil, nil, 2, 0, 1), api.ErrMissing)
	is(t, old, one(), 1)
	added(t, m, edit(nil, nil, 3, 0, 1), version(3, 0, 1))
	is(t, old, one(), 1)
	tells(t, f, version(3, 0, 1), 3)
	// Errors of the edit, and that there is no room, come first.
	holding(t, f, "other", make([]byte, f.Left()))
	rejects(t, f, old, "odd", api.Edit{}, api.ErrArg)
	rejects(t, f, old, "no room", edit(nil, nil, 2, 0, 1), api.ErrFull)
}

// TestManyAdds: one table behind the other, up to 1,024, and one more.
func TestManyAdds(t *testing.T) {
	f := newFS(t, 1<<22)
	m := opened(t, f)
	for n := 1; n <= 1024; n++ {
		if e := m.Add(edit(nil, metas(meta(n, 1, n, key(n, 5), key(n, 5))), 1, n, n+1)); e != api.OK {
			t.Fatalf("the table %d: %d", n, e)
		}
	}
	v := m.Version()
	rejects(t, f, m, "one more", edit(nil, metas(meta(1025, 1, 1, "x", "x")), 1, 1024, 1026), api.ErrArg)
	if len(v.Tables) != 1024 || Check(v) != api.OK {
		t.Fatalf("%d tables, %d", len(v.Tables), Check(v))
	}
	m = tells(t, f, v, 2)
	next := version(1, 1024, 1026, append(slices.Clone(v.Tables[1:]), meta(1025, 1, 1, "x", "x"))...)
	added(t, m, edit(numbers(1), metas(meta(1025, 1, 1, "x", "x")), 1, 1024, 1026), next)
	tells(t, f, next, 3)
}
