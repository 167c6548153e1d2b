package lsm

import (
	"testing"

	"stagepost/api"
)

// These are the tests of rule 5 (no store), and of what becomes of stores that stand side by side.

// nothing says that each method answers as of no store.
func nothing(t *testing.T, what string, s *Store) {
	t.Helper()
	for _, l := range [][]api.Write{nil, writes("a=1"), writes("a=1 a=2"), make([]api.Write, 65)} {
		if seq, e := s.Apply(l); seq != 0 || e != api.ErrNil {
			t.Errorf("%s: Apply: %d, %d", what, seq, e)
		}
	}
	for _, seq := range []int{-1, 0, 1, maxSeq, maxSeq + 1} {
		getFails(t, s, "a", seq, api.ErrNil)
		getFails(t, s, "", seq, api.ErrNil)
		scanFails(t, s, "", "", seq, 9, api.ErrNil)
		scanFails(t, s, "b", "a", seq, -1, api.ErrNil)
		answers(t, what+": Release", s.Release(seq), api.ErrNil)
	}
	if seq, e := s.Snapshot(); seq != 0 || e != api.ErrNil {
		t.Errorf("%s: Snapshot: %d, %d", what, seq, e)
	}
	for _, level := range []int{-1, 0, 5, 6} {
		answers(t, what+": Compact", s.Compact(level), api.ErrNil)
	}
	answers(t, what+": Flush", s.Flush(), api.ErrNil)
	answers(t, what+": Stopped", s.Stopped(), api.ErrNil)
	if s.Seq() != 0 || s.Due() != 0 || s.Held() != 0 || s.Tables() != nil {
		t.Errorf("%s: Seq %d, Due %d, Held %d, Tables %v", what, s.Seq(), s.Due(), s.Held(), s.Tables())
	}
}

func TestNoStore(t *testing.T) {
	var none Store
	refused, _ := Open(nil, usual())
	for what, s := range map[string]*Store{"nil": nil, "one that nobody made": {}, "a variable": &none, "a new one": new(Store), "one that was refused": refused} {
		nothing(t, what, s)
		// It doesn't become one by being asked.
		nothing(t, what+", again", s)
	}
}

// TestCopiesAreNoStores: Open answered the one that was copied, not the copy; what is tried there is not seen in the other.
func TestCopiesAreNoStores(t *testing.T) {
	f, s := begun(t, usual())
	flushed(t, s, "a=1")
	applied(t, s, "b=2")
	taken(t, s)
	was, files := tell(s), look(f)
	other := *s
	nothing(t, "a copy", &other)
	if tell(s) != was || look(f) != files {
		t.Errorf("a copy changed\n%s\ninto\n%s", was, tell(s))
	}
	off(t, f)
	answers(t, "Flush", s.Flush(), api.ErrOff)
	later := *s
	nothing(t, "a copy of one that is stopped", &later)
	stoppedBy(t, s, api.ErrOff)
}

// TestTheFirstErrorStays: a store that is stopped meets no other one.
func TestTheFirstErrorStays(t *testing.T) {
	x := tab{1, 0, entries("a@9=9 b@9=9")}
	f := laid(t, usual(), 9, x)
	alter(t, f, x, 2, 0)
	s := opened(t, f, usual())
	applied(t, s, "c=10")
	getFails(t, s, "a", 10, api.ErrCorrupt)
	off(t, f)
	stoppedBy(t, s, api.ErrCorrupt)
	s = again(t, f, usual())
	off(t, f)
	answers(t, "Flush", s.Flush(), api.ErrOff)
	done(t, f.Crash(0, 0))
	stoppedBy(t, s, api.ErrOff)
}

// TestWhatDoesNotStopAStore: the other errors, each of them.
func TestWhatDoesNotStopAStore(t *testing.T) {
	f := newFS(t, 1<<12)
	s := opened(t, f, usual())
	applied(t, s, "a=1")
	fill(t, f, 20)
	_, _ = s.Apply(nil)
	_, _ = s.Apply(writes("a=1 a=2"))
	_, _ = s.Apply(make([]api.Write, 65))
	_, full := s.Apply(writes("a=" + long(1000)))
	answers(t, "Apply", full, api.ErrFull)
	answers(t, "Flush", s.Flush(), api.ErrFull)
	answers(t, "Compact", s.Compact(7), api.ErrArg)
	answers(t, "Release", s.Release(7), api.ErrArg)
	getFails(t, s, "a", 7, api.ErrStale)
	scanFails(t, s, "", "", 7, 1, api.ErrStale)
	scanFails(t, s, "", "", 1, -1, api.ErrArg)
	answers(t, "Stopped", s.Stopped(), api.OK)
	gets(t, s, "a", 1, "1")
	done(t, f.Remove("filler"))
	flushed(t, s, "b=2")
	gets(t, s, "b", 2, "2")
}

// TestMethodsAsValues: what is bound to a store stays bound to it.
func TestMethodsAsValues(t *testing.T) {
	_, s := begun(t, usual())
	apply, get, seq := s.Apply, s.Get, s.Seq
	s = nil
	if n, e := apply(writes("a=1")); n != 1 || e != api.OK {
		t.Errorf("Apply: %d, %d", n, e)
	}
	if v, there, e := get("a", 1); v != "1" || !there || e != api.OK || seq() != 1 {
		t.Errorf("Get: %q, %v, %d; Seq %d", v, there, e, seq())
	}
	nothing(t, "nil", s)
}

// TestStoresDoNotShare: each has its own file system, batches and tables.
func TestStoresDoNotShare(t *testing.T) {
	f, s := begun(t, usual())
	g, other := begun(t, usual())
	flushed(t, s, "a=1")
	applied(t, other, "b=1", "b=2")
	scans(t, s, "", "", 1, 9, "a=1")
	scans(t, other, "", "", 2, 9, "b=2")
	tables(t, other)
	off(t, g)
	answers(t, "Flush", other.Flush(), api.ErrOff)
	compacted(t, s, 0)
	answers(t, "Stopped", s.Stopped(), api.OK)
	if !f.On() || g.On() {
		t.Errorf("on %v, %v", f.On(), g.On())
	}
}
