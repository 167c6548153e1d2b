package lsm

import (
	"testing"

	"stagepost/api"
)

// TestExamplesOfTheChapter goes through them one behind the other.
func TestExamplesOfTheChapter(t *testing.T) {
	f := newFS(t, 100000)
	s := opened(t, f, usual())
	one, e := s.Apply(writes("a=1 b=1"))
	two, fault := s.Apply(writes("-a c=2"))
	if one != 1 || two != 2 || e != api.OK || fault != api.OK {
		t.Errorf("Apply: %d, %d; %d, %d", one, e, two, fault)
	}
	gets(t, s, "a", 1, "1")
	lacks(t, s, "a", 2)

	answers(t, "Flush", s.Flush(), api.OK)
	tables(t, s, meta(1, 0, 4, "a", "c"))
	scans(t, s, "", "", 2, 9, "b=1 c=2")

	if seq, e := s.Snapshot(); seq != 2 || e != api.OK {
		t.Errorf("Snapshot: %d, %d", seq, e)
	}
	answers(t, "Compact(0)", s.Compact(0), api.OK)
	tables(t, s, meta(2, 1, 2, "b", "c"))
	getFails(t, s, "a", 1, api.ErrStale)

	s = again(t, f, usual())
	if s.Seq() != 2 {
		t.Errorf("Seq: %d", s.Seq())
	}
	gets(t, s, "b", 2, "1")
	getFails(t, s, "a", 3, api.ErrStale)
	answers(t, "Release(7)", s.Release(7), api.ErrArg)
	answers(t, "Compact(6)", s.Compact(6), api.ErrArg)
	if s.Due() != -1 {
		t.Errorf("Due: %d", s.Due())
	}
}

// TestTheErrorsNumbers: the chapter names them by number.
func TestTheErrorsNumbers(t *testing.T) {
	for n, e := range map[int]api.Errno{1: api.ErrNil, 2: api.ErrArg, 3: api.ErrLong, 6: api.ErrCorrupt, 7: api.ErrOff, 8: api.ErrFull, 9: api.ErrThere, 17: api.ErrStale} {
		if int(e) != n {
			t.Errorf("%v has the number %d, not %d", e, int(e), n)
		}
	}
}
