package wal

import (
	"math"
	"slices"
	"testing"

	"stagepost/api"
	"stagepost/vfs"
)

// These are the tests of P5.3 and P5.4, of Roll and Drop, and of wals that are broken.

// unchanged says that a call answers this error, and changes nothing.
func unchanged(t testing.TB, f *vfs.FS, w *Wal, what string, call func() api.Errno, want api.Errno) {
	t.Helper()
	was, seq, segment := look(f), w.Seq(), w.Segment()
	answers(t, what, call(), want)
	if now := look(f); now != was {
		t.Errorf("%s changed\n%s\ninto\n%s", what, was, now)
	}
	is(t, w, seq, segment)
}

func TestRoll(t *testing.T) {
	f := fresh(t, 1000)
	w, _ := opened(t, f, 4, 0)
	fill(t, w, 1, 2)
	steps := f.Steps()
	done(t, w.Roll())
	is(t, w, 2, 5)
	segmentsAre(t, f, 4, 5)
	settled(t, f)
	if f.Steps() != steps+2 {
		t.Errorf("Roll did %d raw steps", f.Steps()-steps)
	}
	fill(t, w, 3, 3)
	done(t, w.Roll(), w.Roll())
	fill(t, w, 4, 5)
	is(t, w, 5, 7)
	done(t, f.Crash(0, 0))
	reads(t, f, named(4), frames(simples(1, 2)...))
	reads(t, f, named(5), frames(simple(3)))
	reads(t, f, named(6), nil)
	reads(t, f, named(7), frames(simples(4, 5)...))
	tells(t, f, 4, 0, simples(1, 5), 5, 8)
}

func TestRollOfAWalWithoutBatches(t *testing.T) {
	f := fresh(t, 0)
	w, _ := opened(t, f, 1, 9)
	for n := range 5 {
		is(t, w, 9, 1+n)
		done(t, w.Roll())
	}
	segmentsAre(t, f, 1, 2, 3, 4, 5, 6)
	tells(t, f, 1, 9, nil, 9, 7)
}

func TestRollAtTheLastSegment(t *testing.T) {
	f := fresh(t, 1000)
	w, _ := opened(t, f, 999998, 0)
	done(t, w.Roll())
	is(t, w, 0, 999999)
	unchanged(t, f, w, "Roll", w.Roll, api.ErrLong)
	fill(t, w, 1, 2)
	unchanged(t, f, w, "Roll", w.Roll, api.ErrLong)
	reads(t, f, named(999999), frames(simples(1, 2)...))
}

func TestRollWhereTheNextOneIsHeld(t *testing.T) {
	for _, b := range [][]byte{nil, frames(simple(9)), []byte("these are no frames")} {
		f := fresh(t, 1000)
		w, _ := opened(t, f, 1, 0)
		fill(t, w, 1, 1)
		holding(t, f, named(2), b)
		unchanged(t, f, w, "Roll", w.Roll, api.ErrThere)
		done(t, f.Fuse(0))
		unchanged(t, f, w, "Roll", w.Roll, api.ErrThere)
		done(t, f.Safe())
		// It goes on with the segment that it has, and rolls once the other one is gone.
		fill(t, w, 2, 2)
		done(t, f.Remove(named(2)), w.Roll())
		is(t, w, 2, 2)
		fill(t, w, 3, 3)
		tells(t, f, 1, 0, simples(1, 3), 3, 3)
	}
}

func TestRollOfTwoWals(t *testing.T) {
	f := fresh(t, 1000)
	one, _ := opened(t, f, 1, 0)
	two, _ := opened(t, f, 1, 0)
	unchanged(t, f, one, "Roll", one.Roll, api.ErrThere)
	done(t, two.Roll())
	is(t, one, 0, 1)
	is(t, two, 0, 3)
}

func TestRollWithAFuse(t *testing.T) {
	for n := range 2 {
		for k := range 3 {
			f := fresh(t, 1000)
			w, _ := opened(t, f, 1, 0)
			fill(t, w, 1, 2)
			steps := f.Steps()
			done(t, f.Fuse(n))
			answers(t, "Roll", w.Roll(), api.ErrOff)
			if f.On() || f.Steps() != steps+n {
				t.Errorf("Fuse(%d): on %v, %d steps", n, f.On(), f.Steps()-steps)
			}
			is(t, w, 2, 1)
			done(t, f.Crash(k, 0))
			tells(t, f, 1, 0, simples(1, 2), 2, 2+min(n, k))
		}
	}
}

// rolled is a wal that has a batch in each of the segments from first to last.
func rolled(t testing.TB, first, last int) (*vfs.FS, *Wal) {
	t.Helper()
	f := fresh(t, 1<<20)
	w, _ := opened(t, f, first, 0)
	for n := first; n < last; n++ {
		fill(t, w, n-first+1, n-first+1)
		done(t, w.Roll())
	}
	fill(t, w, last-first+1, last-first+1)
	return f, w
}

func TestDropOfSome(t *testing.T) {
	for below := 1; below <= 5; below++ {
		f, w := rolled(t, 1, 5)
		steps := f.Steps()
		done(t, w.Drop(below))
		var want []int
		for n := below; n <= 5; n++ {
			want = append(want, n)
		}
		segmentsAre(t, f, want...)
		is(t, w, 5, 5)
		settled(t, f)
		gone, sync := below-1, 1
		if gone == 0 {
			sync = 0
		}
		if f.Steps() != steps+gone+sync {
			t.Errorf("Drop(%d) did %d raw steps", below, f.Steps()-steps)
		}
		done(t, f.Crash(0, 0))
		segmentsAre(t, f, want...)
		fill(t, w, 6, 6)
		tells(t, f, below, below-1, simples(below, 6), 6, 6)
	}
}

func TestDropOfNothing(t *testing.T) {
	f, w := rolled(t, 3, 6)
	for _, below := range []int{3, 2, 1, 0, -1, math.MinInt} {
		unchanged(t, f, w, "Drop of nothing", func() api.Errno { return w.Drop(below) }, api.OK)
	}
	done(t, w.Drop(6))
	for _, below := range []int{6, 5, 3, 1} {
		unchanged(t, f, w, "Drop of what is gone", func() api.Errno { return w.Drop(below) }, api.OK)
	}
	segmentsAre(t, f, 6)
	// Names that are pending stay so, where there is nothing to drop.
	done(t, f.Create("other"), w.Drop(6))
	if f.Pending() != 1 {
		t.Errorf("%d steps are pending", f.Pending())
	}
}

func TestDropOfTheSegmentItself(t *testing.T) {
	f, w := rolled(t, 1, 4)
	done(t, w.Drop(4))
	segmentsAre(t, f, 4)
	fill(t, w, 5, 5)
	reads(t, f, named(4), frames(simples(4, 5)...))
}

func TestDropOfMore(t *testing.T) {
	f, w := rolled(t, 1, 4)
	for _, below := range []int{5, 6, 999999, 1000000, math.MaxInt} {
		unchanged(t, f, w, "Drop of more", func() api.Errno { return w.Drop(below) }, api.ErrArg)
	}
	done(t, w.Roll(), w.Drop(5))
	segmentsAre(t, f, 5)
}

// TestDropLeavesGapsAndOthers: each held segment below goes, those ahead of the wal's first one too, wherever numbers are missing; other files stay.
func TestDropLeavesGapsAndOthers(t *testing.T) {
	f := fresh(t, 1000)
	others := []string{"wal-000000", "wal-00001", "wal-0000001", "wal-+00001", "wal-00000a", "wal", "Wal-000001", "000001", "sst-000001", "wal-wal-000001", "a", "zz"}
	for _, name := range others {
		holding(t, f, name, nil)
	}
	for _, n := range []int{2, 3, 7, 100} {
		holding(t, f, named(n), []byte("these are no frames"))
	}
	w, _ := opened(t, f, 50, 0)
	want := append(slices.Clone(others), named(7), named(50), named(100))
	slices.Sort(want)
	done(t, w.Drop(4))
	names(t, f, want...)
	want = slices.DeleteFunc(want, func(name string) bool { return name == named(7) })
	done(t, w.Drop(50))
	names(t, f, want...)
	settled(t, f)
}

// TestDropWithAFuse: the segments go from the lowest on, then the names are synced.
func TestDropWithAFuse(t *testing.T) {
	for n := range 5 {
		for k := range 6 {
			f, w := rolled(t, 1, 6)
			steps := f.Steps()
			done(t, f.Fuse(n))
			answers(t, "Drop", w.Drop(5), api.ErrOff)
			if f.On() || f.Steps() != steps+n || f.Pending() != min(n, 4) {
				t.Errorf("Fuse(%d): on %v, %d steps, %d pending", n, f.On(), f.Steps()-steps, f.Pending())
			}
			is(t, w, 6, 6)
			done(t, f.Crash(k, 0))
			var want []int
			for i := min(n, k) + 1; i <= 6; i++ {
				want = append(want, i)
			}
			segmentsAre(t, f, want...)
			// What was not to be dropped is there.
			tells(t, f, 5, 4, simples(5, 6), 6, 7)
		}
	}
	f, w := rolled(t, 1, 6)
	done(t, f.Fuse(5), w.Drop(5))
	segmentsAre(t, f, 5, 6)
}

// calls are all calls of a wal that answer an Errno, some of which are refused else.
func calls(w *Wal) map[string]api.Errno {
	one := func(l []api.Write) api.Errno {
		seq, e := w.Append(l)
		if e != api.OK && seq != 0 {
			return -1
		}
		return e
	}
	return map[string]api.Errno{
		"Append":               one(many(1)),
		"Append of none":       one(nil),
		"Append of too many":   one(many(65)),
		"Append of one twice":  one(list(put("a", ""), put("a", ""))),
		"Append of an odd one": one(list(put("", ""))),
		"Append of much":       one(largest().Writes),
		"Roll":                 w.Roll(),
		"Drop":                 w.Drop(1),
		"Drop of some":         w.Drop(2),
		"Drop of more":         w.Drop(math.MaxInt),
		"Drop of less":         w.Drop(math.MinInt),
	}
}

// isBroken says that each call answers ErrOff, and changes nothing.
func isBroken(t testing.TB, f *vfs.FS, w *Wal) {
	t.Helper()
	was, seq, segment := look(f), w.Seq(), w.Segment()
	for what, e := range calls(w) {
		answers(t, what+" of a broken wal", e, api.ErrOff)
	}
	if now := look(f); now != was {
		t.Errorf("a broken wal changed\n%s\ninto\n%s", was, now)
	}
	is(t, w, seq, segment)
}

// breaks are calls that do raw steps, by each of which a wal is broken if the file system goes off there.
func breaks() map[string]func(*Wal) api.Errno {
	return map[string]func(*Wal) api.Errno{
		"Append": func(w *Wal) api.Errno { _, e := w.Append(many(9)); return e },
		"Roll":   func(w *Wal) api.Errno { return w.Roll() },
		"Drop":   func(w *Wal) api.Errno { return w.Drop(3) },
	}
}

// TestABrokenWalStaysSo: it is so when the file system is on again, whatever broke it, whether it was asked between or not.
func TestABrokenWalStaysSo(t *testing.T) {
	for what, call := range breaks() {
		for n := 0; ; n++ {
			f, w := rolled(t, 1, 3)
			done(t, f.Fuse(n))
			if call(w) == api.OK {
				if n < 2 {
					t.Errorf("%s does just %d raw steps", what, n)
				}
				break
			}
			done(t, f.Crash(0, 0))
			isBroken(t, f, w)
			is(t, w, 3, 3)
			// Another one over the same file system is not.
			other := tells(t, f, 1, 0, simples(1, 3), 3, 4)
			fill(t, other, 4, 5)
			isBroken(t, f, w)
			is(t, w, 3, 3)

			f, w = rolled(t, 1, 3)
			done(t, f.Fuse(n))
			answers(t, what, call(w), api.ErrOff)
			isBroken(t, f, w)
			done(t, f.Crash(0, 0))
			isBroken(t, f, w)
		}
	}
}

// TestAFileSystemThatIsOff: it went off elsewhere. A call that meets it so answers ErrOff ahead of its other errors, and the wal is broken from then on.
func TestAFileSystemThatIsOff(t *testing.T) {
	f, w := rolled(t, 1, 3)
	off(t, f)
	isBroken(t, f, w)
	for what, call := range breaks() {
		f, w := rolled(t, 1, 3)
		off(t, f)
		answers(t, what, call(w), api.ErrOff)
		done(t, f.Crash(0, 0))
		isBroken(t, f, w)
	}
	// Refused else, it is broken as well: the file system was off in that call.
	f, w = rolled(t, 1, 3)
	off(t, f)
	answers(t, "Drop of more", w.Drop(9), api.ErrOff)
	done(t, f.Crash(0, 0))
	isBroken(t, f, w)
}

// TestOffBetweenTwoCalls: the file system went off and on again, and no call met it so: the wal is not broken.
func TestOffBetweenTwoCalls(t *testing.T) {
	f, w := rolled(t, 1, 3)
	off(t, f)
	is(t, w, 3, 3)
	done(t, f.Crash(0, 0))
	fill(t, w, 4, 4)
	done(t, w.Roll(), w.Drop(2))
	fill(t, w, 5, 5)
	tells(t, f, 2, 1, simples(2, 5), 5, 5)
}

// TestWhatIsRefusedBreaksNothing: other errors than ErrOff leave the wal whole.
func TestWhatIsRefusedBreaksNothing(t *testing.T) {
	f := fresh(t, 50)
	w, _ := opened(t, f, 1, 0)
	for _, l := range [][]api.Write{nil, many(65), list(put("", "")), list(del("a"), del("a")), largest().Writes} {
		w.Append(l)
	}
	holding(t, f, named(2), nil)
	answers(t, "Roll", w.Roll(), api.ErrThere)
	answers(t, "Drop", w.Drop(2), api.ErrArg)
	fill(t, w, 1, 2)
	done(t, f.Remove(named(2)), w.Roll(), w.Drop(2))
	is(t, w, 2, 2)
}
