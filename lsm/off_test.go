package lsm

import (
	"testing"

	"stagepost/api"
	"stagepost/vfs"
)

// These are the tests of what becomes of a store whose file system goes off aside of its calls: it is stopped, whichever call comes first ('Words').

// firsts are calls of a store: each says whether it was answered as by one that ErrOff stopped. Of a store that is not, none would answer so.
func firsts() map[string]func(s *Store) bool {
	return map[string]func(s *Store) bool{
		"Apply":                  func(s *Store) bool { n, e := s.Apply(writes("a=3")); return n == 0 && e == api.ErrOff },
		"Apply of no writes":     func(s *Store) bool { n, e := s.Apply(nil); return n == 0 && e == api.ErrOff },
		"Apply of too many":      func(s *Store) bool { n, e := s.Apply(make([]api.Write, 65)); return n == 0 && e == api.ErrOff },
		"Get":                    func(s *Store) bool { v, ok, e := s.Get("a", 2); return v == "" && !ok && e == api.ErrOff },
		"Get of none":            func(s *Store) bool { v, ok, e := s.Get("b", 2); return v == "" && !ok && e == api.ErrOff },
		"Get of a stale Seq":     func(s *Store) bool { v, ok, e := s.Get("a", 3); return v == "" && !ok && e == api.ErrOff },
		"Scan":                   func(s *Store) bool { l, e := s.Scan(api.Span{}, 2, 9); return l == nil && e == api.ErrOff },
		"Scan of nothing":        func(s *Store) bool { l, e := s.Scan(api.Span{}, 2, 0); return l == nil && e == api.ErrOff },
		"Scan of a stale Seq":    func(s *Store) bool { l, e := s.Scan(api.Span{}, -1, 9); return l == nil && e == api.ErrOff },
		"Scan of less than none": func(s *Store) bool { l, e := s.Scan(api.Span{}, 2, -1); return l == nil && e == api.ErrOff },
		"Seq":                    func(s *Store) bool { return s.Seq() == 0 },
		"Snapshot":               func(s *Store) bool { n, e := s.Snapshot(); return n == 0 && e == api.ErrOff },
		"Release":                func(s *Store) bool { return s.Release(2) == api.ErrOff },
		"Release of no snapshot": func(s *Store) bool { return s.Release(7) == api.ErrOff },
		"Flush":                  func(s *Store) bool { return s.Flush() == api.ErrOff },
		"Due":                    func(s *Store) bool { return s.Due() == 0 },
		"Compact":                func(s *Store) bool { return s.Compact(0) == api.ErrOff },
		"Compact of no tables":   func(s *Store) bool { return s.Compact(1) == api.ErrOff },
		"Compact of no level":    func(s *Store) bool { return s.Compact(6) == api.ErrOff },
		"Compact below all":      func(s *Store) bool { return s.Compact(-1) == api.ErrOff },
		"Tables":                 func(s *Store) bool { return s.Tables() == nil },
		"Held":                   func(s *Store) bool { return s.Held() == 0 },
		"Stopped":                func(s *Store) bool { return s.Stopped() == api.ErrOff },
	}
}

// asides are ways in which a file system goes off without a call of the store: by itself, or by another store over it.
func asides(t *testing.T) map[string]func(f *vfs.FS) {
	met := func(what string, f *vfs.FS, e api.Errno) {
		t.Helper()
		if e != api.ErrOff || f.On() {
			t.Fatalf("%s: %d, on %v", what, e, f.On())
		}
	}
	return map[string]func(f *vfs.FS){
		"SyncNames": func(f *vfs.FS) { off(t, f) },
		"Create": func(f *vfs.FS) {
			done(t, f.Fuse(0))
			met("Create", f, f.Create("x"))
		},
		"another Open": func(f *vfs.FS) {
			done(t, f.Fuse(0))
			_, e := Open(f, usual())
			met("Open", f, e)
		},
		"another Apply": func(f *vfs.FS) {
			other := opened(t, f, usual())
			done(t, f.Fuse(0))
			_, e := other.Apply(writes("x=1"))
			met("Apply", f, e)
		},
	}
}

// furnished is a store with a table and a snapshot, at 2, and perhaps a batch that is in no table.
func furnished(t *testing.T, more ...string) (*vfs.FS, *Store) {
	t.Helper()
	f, s := begun(t, usual())
	flushed(t, s, "a=1", "a=2")
	taken(t, s)
	applied(t, s, more...)
	return f, s
}

// TestOffAside: whichever call comes first, and whether there is a batch that is in no table.
func TestOffAside(t *testing.T) {
	for what, call := range firsts() {
		for _, more := range [][]string{nil, {"c=3"}} {
			if _, s := furnished(t, more...); call(s) {
				t.Fatalf("%s answers as if it were off", what)
			}
			for way, aside := range asides(t) {
				f, s := furnished(t, more...)
				aside(f)
				if !call(s) {
					t.Errorf("%s, then %s: it answers as if it were on", way, what)
				}
				// One that was stopped stays so, though the file system is on again.
				done(t, f.Crash(0, 0))
				stoppedBy(t, s, api.ErrOff)
				other := opened(t, f, usual())
				gets(t, other, "a", other.Seq(), "2")
				stoppedBy(t, s, api.ErrOff)
			}
		}
	}
}

// TestOffAsideOfANewStore is the least one: no batch, no table.
func TestOffAsideOfANewStore(t *testing.T) {
	for way, aside := range asides(t) {
		f, s := begun(t, settings(1, 1, 1, 1))
		answers(t, way, s.Stopped(), api.OK)
		aside(f)
		stoppedBy(t, s, api.ErrOff)
		done(t, f.Crash(0, 0))
		stoppedBy(t, s, api.ErrOff)
	}
}

// TestOffAsideChangesNoFile: what is told of a store that is stopped takes no raw step.
func TestOffAsideChangesNoFile(t *testing.T) {
	f, s := begun(t, usual())
	flushed(t, s, "a=1")
	applied(t, s, "b=2")
	off(t, f)
	steps, pending := f.Steps(), f.Pending()
	stoppedBy(t, s, api.ErrOff)
	if f.Steps() != steps || f.Pending() != pending || f.On() {
		t.Errorf("%d steps became %d, %d pending %d, on %v", steps, f.Steps(), pending, f.Pending(), f.On())
	}
}

// TestOffAsideOfAllItsStores: each that stands over it is stopped, others are not.
func TestOffAsideOfAllItsStores(t *testing.T) {
	f, s := begun(t, usual())
	other := opened(t, f, usual())
	_, far := begun(t, usual())
	done(t, f.Fuse(0))
	if _, e := s.Apply(writes("a=1")); e != api.ErrOff {
		t.Fatalf("Apply: %d", e)
	}
	stoppedBy(t, other, api.ErrOff)
	answers(t, "another file system", far.Stopped(), api.OK)
	applied(t, far, "a=1")
}

// TestAFuseAloneStopsNothing: it is on until a raw step meets it.
func TestAFuseAloneStopsNothing(t *testing.T) {
	f, s := begun(t, usual())
	flushed(t, s, "a=1")
	done(t, f.Fuse(0))
	gets(t, s, "a", 1, "1")
	scans(t, s, "", "", 1, 9, "a=1")
	answers(t, "Release", s.Release(taken(t, s)), api.OK)
	answers(t, "Flush of nothing", s.Flush(), api.OK)
	answers(t, "Compact of no tables", s.Compact(1), api.OK)
	answers(t, "Stopped", s.Stopped(), api.OK)
	tables(t, s, meta(1, 0, 1, "a", "a"))
	done(t, f.Safe())
	applied(t, s, "a=2")
	gets(t, s, "a", 2, "2")
}
