package lsm

import (
	"fmt"
	"slices"
	"strings"
	"testing"

	"stagepost/api"
	"stagepost/frame"
	"stagepost/manifest"
	"stagepost/vfs"
)

// These are the tests of P11.5.

// TestFlushOfNothing does no step, so that no fuse burns.
func TestFlushOfNothing(t *testing.T) {
	f, s := begun(t, usual())
	done(t, f.Fuse(0))
	rejects(t, f, s, "Flush of nothing", s.Flush, api.OK)
	if !f.On() {
		t.Errorf("it is off")
	}
	done(t, f.Safe())
	flushed(t, s, "a=1")
	rejects(t, f, s, "Flush of nothing more", s.Flush, api.OK)
	s = opened(t, f, usual())
	rejects(t, f, s, "Flush of nothing behind Open", s.Flush, api.OK)
	applied(t, s, "a=1")
	rejects(t, f, s, "a batch that is none, ahead", func() api.Errno { _, e := s.Apply(nil); return e }, api.ErrArg)
	done(t, s.Flush())
	tables(t, s, meta(2, 0, 1, "a", "a"), meta(1, 0, 1, "a", "a"))
}

// TestFlushCuts: tables of Most entries, and what is left; the versions of a key are never parted.
func TestFlushCuts(t *testing.T) {
	for _, c := range []struct {
		most    int
		batches []string
		want    []string
	}{
		{4, []string{"a=1"}, []string{"a@1=1"}},
		{4, []string{"-a"}, []string{"-a@1"}},
		{4, []string{"d=1 a=1 c=1"}, []string{"a@1=1 c@1=1 d@1=1"}},
		{4, []string{"a=1 b=1 c=1 d=1"}, []string{"a@1=1 b@1=1 c@1=1 d@1=1"}},
		{4, []string{"a=1 b=1 c=1 d=1 e=1"}, []string{"a@1=1 b@1=1 c@1=1 d@1=1", "e@1=1"}},
		{4, []string{"a=1 b=1 c=1 d=1 e=1 f=1 g=1 h=1"}, []string{"a@1=1 b@1=1 c@1=1 d@1=1", "e@1=1 f@1=1 g@1=1 h@1=1"}},
		{4, []string{"a=1 b=1 c=1 d=1 e=1 f=1 g=1 h=1 i=1"}, []string{"a@1=1 b@1=1 c@1=1 d@1=1", "e@1=1 f@1=1 g@1=1 h@1=1", "i@1=1"}},
		{1, []string{"a=1 c=1 b=1"}, []string{"a@1=1", "b@1=1", "c@1=1"}},
		{65536, []string{"a=1 c=1 b=1"}, []string{"a@1=1 b@1=1 c@1=1"}},
		// A cut that would part the versions of a key is moved behind them.
		{1, []string{"a=1", "a=2", "-a"}, []string{"-a@3 a@2=2 a@1=1"}},
		{1, []string{"a=1 b=1", "a=2 c=2", "b=3"}, []string{"a@2=2 a@1=1", "b@3=3 b@1=1", "c@2=2"}},
		{2, []string{"a=1 b=1 c=1", "b=2"}, []string{"a@1=1 b@2=2 b@1=1", "c@1=1"}},
		{2, []string{"a=1 b=1 c=1 d=1", "b=2"}, []string{"a@1=1 b@2=2 b@1=1", "c@1=1 d@1=1"}},
		{2, []string{"a=1 b=1 c=1 d=1 e=1", "b=2", "-b"}, []string{"a@1=1 -b@3 b@2=2 b@1=1", "c@1=1 d@1=1", "e@1=1"}},
		{2, []string{"a=1 b=1", "a=2 b=2"}, []string{"a@2=2 a@1=1", "b@2=2 b@1=1"}},
		{2, []string{"a=1 b=1", "a=2 b=2", "a=3"}, []string{"a@3=3 a@2=2 a@1=1", "b@2=2 b@1=1"}},
		{3, []string{"a=1 b=1", "a=2 b=2", "a=3"}, []string{"a@3=3 a@2=2 a@1=1", "b@2=2 b@1=1"}},
		{4, []string{"a=1 b=1", "a=2 b=2", "a=3"}, []string{"a@3=3 a@2=2 a@1=1 b@2=2 b@1=1"}},
		{3, []string{"a=1 aa=1 b=1", "aa=2 ab=2"}, []string{"a@1=1 aa@2=2 aa@1=1", "ab@2=2 b@1=1"}},
	} {
		set := settings(2, c.most, 3, 1, 2)
		f, s := begun(t, set)
		flushed(t, s, c.batches...)
		var want []api.Meta
		for i, l := range c.want {
			x := tab{i + 1, 0, entries(l)}
			has(t, f, set, i+1, x.entries)
			want = append(want, x.words())
		}
		wrote(t, f, api.Edit{Adds: want, Log: 2, Seq: len(c.batches), Next: len(want) + 1})
		slices.Reverse(want) // the newest ahead
		tables(t, s, want...)
		if t.Failed() {
			t.Fatalf("Most %d, %q", c.most, c.batches)
		}
		tables(t, again(t, f, set), want...)
	}
}

// TestFlushGoesOn: numbers, segments and Seqs rise from one flush to the next, and behind an Open.
func TestFlushGoesOn(t *testing.T) {
	f, s := begun(t, usual())
	flushed(t, s, "a=1", "b=2")
	names(t, f, "", "current", "manifest-000001", named(1), segment(2))
	wrote(t, f, api.Edit{Adds: metas(meta(1, 0, 2, "a", "b")), Log: 2, Seq: 2, Next: 2})
	flushed(t, s, "a=3 b=3 c=3 d=3 e=3")
	names(t, f, "", "current", "manifest-000001", named(1), named(2), named(3), segment(3))
	wrote(t, f, api.Edit{Adds: metas(meta(2, 0, 4, "a", "d"), meta(3, 0, 1, "e", "e")), Log: 3, Seq: 3, Next: 4})
	tables(t, s, meta(3, 0, 1, "e", "e"), meta(2, 0, 4, "a", "d"), meta(1, 0, 2, "a", "b"))
	s = again(t, f, usual())
	names(t, f, "wal-", segment(3), segment(4))
	flushed(t, s, "-a")
	names(t, f, "", "current", "manifest-000002", named(1), named(2), named(3), named(4), segment(5))
	wrote(t, f, api.Edit{Adds: metas(meta(4, 0, 1, "a", "a")), Log: 5, Seq: 4, Next: 5})
	scans(t, s, "", "", 4, 9, "b=3 c=3 d=3 e=3")
	// What was asked for may be asked for still: a flush passes nothing.
	gets(t, s, "a", 3, "3")
	lacks(t, s, "a", 4)
}

// TestFlushInTheShapeOfTheSettings: Per and Bits are those of its tables.
func TestFlushInTheShapeOfTheSettings(t *testing.T) {
	for _, set := range []api.Settings{{Per: 1, Bits: 1, Top: 1, Most: 9}, {Per: 3, Bits: 16, Top: 1, Most: 9}, {Per: 64, Bits: 7, Top: 1, Most: 9}} {
		f, s := begun(t, set)
		flushed(t, s, "a=1 b=2 c=3 d=4 e=5")
		has(t, f, set, 1, entries("a@1=1 b@1=2 c@1=3 d@1=4 e@1=5"))
		compacted(t, s, 0)
		has(t, f, set, 2, entries("a@1=1 b@1=2 c@1=3 d@1=4 e@1=5"))
	}
}

// TestTheStepsOfAFlush, one by one.
func TestTheStepsOfAFlush(t *testing.T) {
	f, s := begun(t, usual())
	applied(t, s, "a=1 b=1 c=1 d=1", "e=2")
	was := f.Steps()
	done(t, s.Flush())
	raws := func(b []byte) int { return (len(b) + 63) / 64 }
	one, _ := f.Read(named(1))
	two, _ := f.Read(named(2))
	record, _ := manifest.Encode(lastEdit(t, f))
	edit, _ := frame.Append(nil, record)
	// The log rolls (2); each file is created, written and synced; the names are synced; the edit is written and synced; the old segment is removed and the names are synced.
	want := 2 + (1 + raws(one) + 1) + (1 + raws(two) + 1) + 1 + (raws(edit) + 1) + 2
	if got := f.Steps() - was; got != want || f.Pending() != 0 {
		t.Errorf("%d steps, not %d; %d pending", got, want, f.Pending())
	}
}

// ready is a file system with a store that has something to flush, behind other tables and segments.
func ready(t testing.TB) *vfs.FS {
	t.Helper()
	f := newFS(t, 1<<16)
	s := opened(t, f, usual())
	flushed(t, s, "a=1 b=1")
	applied(t, s, "a=2 c=2 d=2 e=2")
	s = opened(t, f, usual())
	applied(t, s, "-a", "f=4")
	return f
}

// TestFlushWithAFuse goes off at each of its steps, and does just those that the chapter says, in their order. Whatever is lost then, the store has it all.
func TestFlushWithAFuse(t *testing.T) {
	for n := 0; ; n++ {
		whole := false
		for k := range 9 {
			w := twins(t, usual(), func() *vfs.FS { return ready(t) })
			w.open()
			done(t, w.f.Fuse(n), w.g.Fuse(n))
			whole = w.do("Flush", func(s asked) string { return played(s, "F") }) == "Flush 0"
			if !whole {
				stoppedBy(t, w.store, api.ErrOff)
			}
			w.crash(k, 9*k)
			if !w.open() {
				t.Fatalf("Fuse(%d), Crash(%d, %d): Open", n, k, 9*k)
			}
			scans(t, w.store, "", "", 4, 9, "b=1 c=2 d=2 e=2 f=4")
			w.play("F", "a=5", "F", "C0", "-c")
			scans(t, w.store, "", "", 6, 9, "a=5 b=1 d=2 e=2 f=4")
		}
		if whole {
			if n < 17 {
				t.Errorf("Flush has just %d steps", n)
			}
			return
		}
	}
}

// TestFlushWhereNamesAreHeld: what a flush left that was refused is removed, whatever it is.
func TestFlushWhereNamesAreHeld(t *testing.T) {
	for _, left := range [][]byte{nil, []byte("left behind"), make([]byte, 3000)} {
		w := twins(t, usual(), func() *vfs.FS { return ready(t) })
		w.open()
		for _, f := range []*vfs.FS{w.f, w.g} {
			holding(t, f, named(2), left)
			holding(t, f, named(3), left)
			holding(t, f, named(4), left)
		}
		w.play("F")
		names(t, w.f, "sst-", named(1), named(2), named(3), named(4))
		has(t, w.f, usual(), 2, entries("-a@3 a@2=2 c@2=2 d@2=2"))
		has(t, w.f, usual(), 3, entries("e@2=2 f@4=4"))
	}
}

// TestFlushWhereThereIsNoRoom: refused, it leaves all that can be asked as it was, files aside; and it passes, as soon as there is room.
func TestFlushWhereThereIsNoRoom(t *testing.T) {
	seen := map[api.Errno]int{}
	for left := 0; left < 700; left += 3 {
		f := ready(t)
		s := opened(t, f, usual())
		taken(t, s)
		fill(t, f, left)
		was := tell(s)
		e := s.Flush()
		seen[e]++
		if e == api.OK {
			continue
		}
		answers(t, "Flush", e, api.ErrFull)
		if now := tell(s); now != was {
			t.Fatalf("%d are left: Flush was refused, and changed\n%s\ninto\n%s", left, was, now)
		}
		for range 2 {
			answers(t, "Flush again", s.Flush(), api.ErrFull)
		}
		done(t, f.Remove("filler"), f.SyncNames())
		applied(t, s, "g=5")
		if left%2 == 0 {
			s = again(t, f, usual())
			names(t, f, "sst-", named(1))
		}
		done(t, s.Flush())
		tables(t, s, meta(3, 0, 3, "e", "g"), meta(2, 0, 4, "a", "d"), meta(1, 0, 2, "a", "b"))
		names(t, f, "sst-", named(1), named(2), named(3))
		scans(t, s, "", "", 5, 9, "b=1 c=2 d=2 e=2 f=4 g=5")
		scans(t, again(t, f, usual()), "", "", 5, 9, "b=1 c=2 d=2 e=2 f=4 g=5")
	}
	if seen[api.ErrFull] < 80 || seen[api.OK] < 20 {
		t.Errorf("what Flush answered: %v", seen)
	}
}

// TestWhatIsFullStaysDone: the files of the tables that were made ahead of an ErrFull are there, and the log has rolled.
func TestWhatIsFullStaysDone(t *testing.T) {
	f := ready(t)
	s := opened(t, f, usual())
	first := tab{2, 0, entries("-a@3 a@2=2 c@2=2 d@2=2")}.bytes(t, usual())
	fill(t, f, len(first)+10)
	names(t, f, "wal-", segment(2), segment(3), segment(4))
	answers(t, "Flush", s.Flush(), api.ErrFull)
	names(t, f, "sst-", named(1), named(2), named(3))
	names(t, f, "wal-", segment(2), segment(3), segment(4), segment(5))
	has2, _ := f.Read(named(2))
	has3, _ := f.Read(named(3))
	if !slices.Equal(has2, first) || len(has3) > 0 {
		t.Errorf("%d bytes, %d bytes", len(has2), len(has3))
	}
	answers(t, "Stopped", s.Stopped(), api.OK)
	gets(t, s, "f", 4, "4")
}

// TestFlushWhereTheNextSegmentIsHeld: what the log says is passed on, and nothing changes.
func TestFlushWhereTheNextSegmentIsHeld(t *testing.T) {
	f, s := begun(t, usual())
	applied(t, s, "a=1")
	holding(t, f, segment(2), nil)
	rejects(t, f, s, "Flush", s.Flush, api.ErrThere)
	applied(t, s, "b=2")
	done(t, f.Remove(segment(2)), s.Flush())
	tables(t, s, meta(1, 0, 2, "a", "b"))
}

// TestFlushWhereNoSegmentIsLeft: the log's last one is written to.
func TestFlushWhereNoSegmentIsLeft(t *testing.T) {
	f := newFS(t, 1<<16)
	written(t, f, api.Edit{Log: 999999, Seq: 0, Next: 1})
	s := opened(t, f, usual())
	applied(t, s, "a=1")
	rejects(t, f, s, "Flush", s.Flush, api.ErrLong)
	gets(t, s, "a", 1, "1")
}

func TestFlushWhereNoNumberIsLeft(t *testing.T) {
	numbered := func(next int) (*vfs.FS, *Store) {
		f := newFS(t, 1<<16)
		written(t, f, api.Edit{Log: 1, Seq: 0, Next: next})
		return f, opened(t, f, usual())
	}
	f, s := numbered(999997)
	flushed(t, s, "a=1 b=1 c=1 d=1 e=1")
	tables(t, s, meta(999998, 0, 1, "e", "e"), meta(999997, 0, 4, "a", "d"))
	wrote(t, f, api.Edit{Adds: metas(meta(999997, 0, 4, "a", "d"), meta(999998, 0, 1, "e", "e")), Log: 2, Seq: 1, Next: 999999})
	applied(t, s, "a=2")
	rejects(t, f, s, "no number is left", s.Flush, api.ErrLong)
	f, s = numbered(999998)
	applied(t, s, "a=1 b=1 c=1 d=1 e=1")
	rejects(t, f, s, "one number is left, for two tables", s.Flush, api.ErrLong)
	s = opened(t, f, settings(2, 5))
	done(t, s.Flush())
	tables(t, s, meta(999998, 0, 5, "a", "e"))
	f, s = numbered(999999)
	applied(t, s, "a=1")
	rejects(t, f, s, "none is left", s.Flush, api.ErrLong)
}

// singles applies n keys, from the number from on.
func singles(t testing.TB, s *Store, from, n int) {
	t.Helper()
	for ; n > 0; n -= 64 {
		var b []api.Write
		for range min(n, 64) {
			b = append(b, put(key(from), "v", false))
			from++
		}
		if _, e := s.Apply(b); e != api.OK {
			t.Fatalf("Apply: %d", e)
		}
	}
}

// TestFlushUpToTheMostTables: 1,024 may be there, one more is too many.
func TestFlushUpToTheMostTables(t *testing.T) {
	f, s := begun(t, settings(64, 1))
	singles(t, s, 0, 1023)
	done(t, s.Flush())
	singles(t, s, 2000, 2)
	rejects(t, f, s, "1,025 tables", s.Flush, api.ErrLong)
	// With tables of two entries there is room for what is there; not for one more.
	s = opened(t, f, settings(64, 2))
	done(t, s.Flush())
	if l := s.Tables(); len(l) != 1024 || l[0] != meta(1024, 0, 2, key(2000), key(2001)) {
		t.Errorf("%d tables, %v", len(l), l[0])
	}
	applied(t, s, "a=1")
	rejects(t, f, s, "one more", s.Flush, api.ErrLong)
	compacted(t, s, 0)
	done(t, s.Flush())
	if l := s.Tables(); len(l) != 1+513 || s.Due() != 1 {
		t.Errorf("%d tables, Due %d", len(l), s.Due())
	}
}

// TestFlushOfAnEditThatIsLongerThanAFrame: the files are there when it is refused, but all that can be asked is as it was.
func TestFlushOfAnEditThatIsLongerThanAFrame(t *testing.T) {
	f, s := begun(t, settings(64, 1))
	for i := range 16 {
		var b []api.Write
		for j := range 64 {
			b = append(b, put(key(64*i+j)+strings.Repeat("x", 506), "v", false))
		}
		if _, e := s.Apply(b); e != api.OK {
			t.Fatalf("Apply: %d", e)
		}
	}
	was := tell(s)
	answers(t, "Flush", s.Flush(), api.ErrLong)
	if now := tell(s); now != was {
		t.Fatalf("Flush was refused, and changed something")
	}
	names(t, f, "wal-", segment(1), segment(2))
	if n := len(namesOf(f, "sst-")); n != 1024 {
		t.Errorf("%d files", n)
	}
	applied(t, s, "a=1")
	s = again(t, f, settings(64, 2))
	names(t, f, "sst-")
	done(t, s.Flush())
	if n := len(s.Tables()); n != 513 {
		t.Errorf("%d tables", n)
	}
	gets(t, s, key(1000)+strings.Repeat("x", 506), 17, "v")
	gets(t, s, "a", 17, "1")
}

// TestFlushOfATableWithoutAnIndex: blocks of one entry with long keys make an index that no frame has room for. Nothing is done.
func TestFlushOfATableWithoutAnIndex(t *testing.T) {
	set := api.Settings{Per: 1, Bits: 1, Top: 1, Most: 65536}
	f, s := begun(t, set)
	for i := range 40 {
		var b []api.Write
		for j := range 64 {
			b = append(b, put(key(64*i+j)+strings.Repeat("x", 506), "v", false))
		}
		if _, e := s.Apply(b); e != api.OK {
			t.Fatalf("Apply: %d", e)
		}
	}
	files := look(f)
	answers(t, "Flush", s.Flush(), api.ErrLong)
	if look(f) != files || s.Stopped() != api.OK {
		t.Errorf("Flush was refused, and changed a file")
	}
	set.Per = 2
	s = again(t, f, set)
	done(t, s.Flush())
	tables(t, s, meta(1, 0, 2560, key(0)+strings.Repeat("x", 506), key(2559)+strings.Repeat("x", 506)))
}

// TestTheMostVersionsOfAKey: they are never parted, so that a table has no room for more than 65,536.
func TestTheMostVersionsOfAKey(t *testing.T) {
	set := api.Settings{Heights: []int{1, 2, 1, 4, 1, 2, 1, 8}, Per: 64, Bits: 1, Top: 2, Most: 3}
	f, s := begun(t, set)
	versions := func(n int) {
		t.Helper()
		for range n {
			if _, e := s.Apply(writes("a=1")); e != api.OK {
				t.Fatalf("Apply: %d", e)
			}
			taken(t, s)
		}
	}
	applied(t, s, "b=1")
	versions(65536)
	done(t, s.Flush())
	tables(t, s, meta(2, 0, 1, "b", "b"), meta(1, 0, 65536, "a", "a"))
	// Somebody holds each of them: no table has room for one more.
	flushed(t, s, "-a")
	taken(t, s)
	rejects(t, f, s, "Compact", func() api.Errno { return s.Compact(0) }, api.ErrLong)
	gets(t, s, "a", 2, "1")
	answers(t, "Release", s.Release(30000), api.OK)
	compacted(t, s, 0)
	tables(t, s, meta(4, 1, 65536, "a", "a"), meta(5, 1, 1, "b", "b"))
	gets(t, s, "a", 29999, "1")
	getFails(t, s, "a", 30000, api.ErrStale)
	lacks(t, s, "a", 65538)
	versions(65537)
	rejects(t, f, s, "Flush", s.Flush, api.ErrLong)
	applied(t, s, "c=1")
	names(t, f, "sst-", named(4), named(5))
	names(t, f, "wal-", segment(3))
	if seq := s.Seq(); seq != 65538+65537+1 {
		t.Errorf("Seq: %d", seq)
	}
	gets(t, s, "c", s.Seq(), "1")
}

// TestErrorsOfFlushInTheirOrder: to each call several of them apply (rule 1).
func TestErrorsOfFlushInTheirOrder(t *testing.T) {
	// That a list is too long comes ahead of what is the matter with the files, behind that the file system is off.
	f := newFS(t, 1<<16)
	written(t, f, api.Edit{Log: 1, Seq: 0, Next: 999999})
	s := opened(t, f, usual())
	applied(t, s, "a=1")
	holding(t, f, segment(2), nil)
	fill(t, f, 0)
	answers(t, "too long, held, full", s.Flush(), api.ErrLong)
	answers(t, "Stopped", s.Stopped(), api.OK)
	off(t, f)
	answers(t, "too long, held, full, off", s.Flush(), api.ErrOff)
	f, s = begun(t, usual())
	answers(t, "nothing to do", s.Flush(), api.OK)
	off(t, f)
	answers(t, "nothing to do, off", s.Flush(), api.ErrOff)
	// That a segment is held comes ahead of there being no room; that it is off comes ahead of both.
	for _, c := range []struct {
		held, off bool
		want      api.Errno
	}{{false, false, api.ErrFull}, {true, false, api.ErrThere}, {true, true, api.ErrOff}} {
		f := newFS(t, 1<<14)
		s := opened(t, f, usual())
		applied(t, s, "a=1")
		if c.held {
			holding(t, f, segment(2), nil)
		}
		fill(t, f, 0)
		if c.off {
			off(t, f)
		}
		answers(t, fmt.Sprint(c), s.Flush(), c.want)
		s = nil
		answers(t, "none", s.Flush(), api.ErrNil)
	}
}
