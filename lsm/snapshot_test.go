package lsm

import (
	"math"
	"testing"

	"stagepost/api"
)

// These are the tests of P11.4.

// held says how many snapshots there are.
func held(t *testing.T, s *Store, want int) {
	t.Helper()
	if got := s.Held(); got != want {
		t.Errorf("Held: %d, not %d", got, want)
	}
}

func TestSeq(t *testing.T) {
	f, s := begun(t, usual())
	seq := func(want int) {
		t.Helper()
		if s.Seq() != want {
			t.Errorf("Seq: %d, not %d", s.Seq(), want)
		}
	}
	seq(0)
	for n := range 5 {
		applied(t, s, "a=1")
		seq(n + 1)
	}
	s.Apply(nil)
	seq(5)
	done(t, s.Flush())
	seq(5)
	compacted(t, s, 0)
	seq(5)
	taken(t, s)
	seq(5)
	s = again(t, f, usual())
	seq(5)
	applied(t, s, "-a")
	seq(6)
}

func TestSnapshotsAreCounted(t *testing.T) {
	f, s := begun(t, usual())
	held(t, s, 0)
	if seq := taken(t, s); seq != 0 {
		t.Errorf("Snapshot of a new one: %d", seq)
	}
	applied(t, s, "a=1", "a=2")
	for n := range 3 {
		if seq := taken(t, s); seq != 2 {
			t.Errorf("Snapshot: %d", seq)
		}
		held(t, s, n+2)
	}
	applied(t, s, "a=3")
	taken(t, s)
	held(t, s, 5)
	was := look(f)
	for _, seq := range []int{1, 4, -1, 7, maxSeq, math.MinInt, math.MaxInt} {
		rejects(t, f, s, "Release of none", func() api.Errno { return s.Release(seq) }, api.ErrArg)
	}
	held(t, s, 5)
	answers(t, "Release", s.Release(2), api.OK)
	held(t, s, 4)
	answers(t, "Release", s.Release(0), api.OK)
	held(t, s, 3)
	rejects(t, f, s, "Release of one that is gone", func() api.Errno { return s.Release(0) }, api.ErrArg)
	answers(t, "Release", s.Release(2), api.OK)
	answers(t, "Release", s.Release(3), api.OK)
	held(t, s, 1)
	answers(t, "Release", s.Release(2), api.OK)
	held(t, s, 0)
	rejects(t, f, s, "Release of one that is gone", func() api.Errno { return s.Release(2) }, api.ErrArg)
	// No file is touched by this.
	if now := look(f); now != was {
		t.Errorf("the files became\n%s\nof\n%s", now, was)
	}
	// Taken anew, it is there again.
	taken(t, s)
	held(t, s, 1)
	answers(t, "Release", s.Release(3), api.OK)
}

// TestASnapshotThatIsTakenTwice: released once, it stays.
func TestASnapshotThatIsTakenTwice(t *testing.T) {
	_, s := begun(t, usual())
	applied(t, s, "a=1")
	taken(t, s)
	taken(t, s)
	flushed(t, s, "a=2", "-a")
	answers(t, "Release", s.Release(1), api.OK)
	compacted(t, s, 0)
	gets(t, s, "a", 1, "1")
	tables(t, s, meta(2, 1, 2, "a", "a"))
	getFails(t, s, "a", 2, api.ErrStale)
	answers(t, "Release", s.Release(1), api.OK)
	getFails(t, s, "a", 1, api.ErrStale)
	// Nobody asks for it any more: it goes.
	compacted(t, s, 1)
	tables(t, s)
	lacks(t, s, "a", 3)
}

// TestASnapshotOfTheStateBelowAll: at 0 there is nothing, and that stays so.
func TestASnapshotOfTheStateBelowAll(t *testing.T) {
	_, s := begun(t, usual())
	taken(t, s)
	flushed(t, s, "a=1", "a=2")
	compacted(t, s, 0)
	lacks(t, s, "a", 0)
	scans(t, s, "", "", 0, 9, "")
	getFails(t, s, "a", 1, api.ErrStale)
	gets(t, s, "a", 2, "2")
}

// TestASnapshotIsNotOfOtherStores: each has its own.
func TestASnapshotIsNotOfOtherStores(t *testing.T) {
	_, s := begun(t, usual())
	_, other := begun(t, usual())
	applied(t, s, "a=1")
	applied(t, other, "a=1")
	taken(t, s)
	held(t, other, 0)
	answers(t, "Release", other.Release(1), api.ErrArg)
	held(t, s, 1)
}

func TestManySnapshots(t *testing.T) {
	_, s := begun(t, settings(4, 7, 1, 2, 1, 3))
	var p past
	for i := range 120 {
		b := []api.Write{put(key(i%5), key(i), i%7 == 3), put(key(10+i%3), key(i), false)}
		if _, e := s.Apply(b); e != api.OK {
			t.Fatalf("Apply: %d", e)
		}
		p = append(p, b)
		for range i % 3 {
			taken(t, s)
		}
		if i%11 == 10 {
			done(t, s.Flush())
			compacted(t, s, i/11%4, 0)
		}
	}
	held(t, s, 120)
	for i := range 120 {
		seq := i + 1
		if i%3 == 0 {
			continue
		}
		p.tellsAll(t, s, seq)
		for range i % 3 {
			answers(t, "Release", s.Release(seq), api.OK)
		}
		answers(t, "Release once more", s.Release(seq), api.ErrArg)
	}
	held(t, s, 0)
}
