package lsm

import (
	"fmt"
	"slices"
	"testing"

	"stagepost/api"
	"stagepost/vfs"
)

// These are the tests of Open (P11.1).

func TestOpenOverNothing(t *testing.T) {
	f := newFS(t, 100000)
	s := opened(t, f, usual())
	names(t, f, "", "current", "manifest-000001", "wal-000001")
	// Nine steps of the manifest, two of the log.
	if f.Steps() != 11 || f.Pending() != 0 {
		t.Errorf("%d steps, %d pending", f.Steps(), f.Pending())
	}
	if s.Seq() != 0 || s.Held() != 0 || s.Due() != -1 || len(s.Tables()) != 0 {
		t.Errorf("Seq %d, Held %d, Due %d, Tables %v", s.Seq(), s.Held(), s.Due(), s.Tables())
	}
	answers(t, "Stopped", s.Stopped(), api.OK)
	lacks(t, s, "a", 0)
	scans(t, s, "", "", 0, 9, "")
	getFails(t, s, "a", 1, api.ErrStale)
}

func TestOpenOfNoFileSystem(t *testing.T) {
	var none vfs.FS
	for _, f := range []*vfs.FS{nil, {}, &none, new(vfs.FS)} {
		for _, set := range []api.Settings{usual(), {}} {
			if s, e := Open(f, set); s != nil || e != api.ErrNil {
				t.Errorf("Open: %v, %d", s != nil, e)
			}
		}
	}
}

// refuses says that Open answers this error, and nothing beside it.
func refuses(t testing.TB, what string, f *vfs.FS, set api.Settings, want api.Errno) {
	t.Helper()
	if s, e := Open(f, set); s != nil || e != want {
		t.Errorf("%s: Open: %v, %d; not %d", what, s != nil, e, want)
	}
}

// TestErrorsOfOpenInTheirOrder: to each file system several of them apply (rule 1).
func TestErrorsOfOpenInTheirOrder(t *testing.T) {
	table := tab{1, 0, entries("a@1=x b@2=y")}
	// The log has no number left, the table's file is missing, the manifest has no number left, the file system is off, the settings may not be.
	last := func() *vfs.FS {
		f := newFS(t, 100000)
		written(t, f, api.Edit{Adds: metas(table.words()), Log: 999999, Seq: 2, Next: 2})
		holding(t, f, segment(999999), nil)
		return f
	}
	f := last()
	holding(t, f, named(1), table.bytes(t, usual()))
	refuses(t, "no segment is left", f, usual(), api.ErrLong)
	f = last()
	refuses(t, "nor a table's file", f, usual(), api.ErrCorrupt)
	holding(t, f, named(1), table.bytes(t, usual())[1:])
	refuses(t, "the table's file lacks a byte", f, usual(), api.ErrCorrupt)
	was := f.Steps()
	b, _ := f.Read("current")
	done(t, f.Remove("current"), f.Create("current"), f.Append("current", b[1:]), f.Sync("current"), f.SyncNames())
	refuses(t, "nor is the manifest whole", f, usual(), api.ErrCorrupt)
	if f.Steps() != was+4+1 {
		t.Errorf("an altered manifest: %d steps", f.Steps()-was)
	}
	off(t, f)
	refuses(t, "nor is the file system on", f, usual(), api.ErrOff)
	refuses(t, "nor may the settings be", f, settings(0, 4), api.ErrArg)
	refuses(t, "nor is there a file system", nil, settings(0, 4), api.ErrNil)
	// The manifest's error is told ahead of a table's.
	f = last()
	fill(t, f, 0)
	refuses(t, "no room for a manifest", f, usual(), api.ErrFull)
}

func TestOpenOfAFileSystemThatIsOff(t *testing.T) {
	f, s := begun(t, usual())
	flushed(t, s, "a=1")
	off(t, f)
	was := look(f)
	refuses(t, "off", f, usual(), api.ErrOff)
	if now := look(f); now != was {
		t.Errorf("Open changed\n%s\ninto\n%s", was, now)
	}
	gets(t, again(t, f, usual()), "a", 1, "1")
}

// some are tables of several levels, whose words are right.
func some() []tab {
	return []tab{
		{9, 0, entries("a@9=i c@8=h d@9=i")}, {7, 0, entries("b@6=f b@5=e b@4=d -c@6 m@5=e")},
		{4, 1, entries("a@2=b -b@3")}, {6, 1, entries("d@2=b")},
		{2, 3, entries("a@1=a b@1=a c@1=a d@1=a e@1=a")}, {1, 6, entries("x@1=a y@1=a")},
	}
}

func TestOpenReadsTheTables(t *testing.T) {
	f := laid(t, usual(), 9, some()...)
	s := opened(t, f, usual())
	if s.Seq() != 9 {
		t.Errorf("Seq: %d", s.Seq())
	}
	tables(t, s, meta(9, 0, 3, "a", "d"), meta(7, 0, 5, "b", "m"), meta(4, 1, 2, "a", "b"), meta(6, 1, 1, "d", "d"), meta(2, 3, 5, "a", "e"), meta(1, 6, 2, "x", "y"))
	scans(t, s, "", "", 9, 99, "a=i b=f c=h d=i e=a m=e x=a y=a")
	names(t, f, "sst-", named(1), named(2), named(4), named(6), named(7), named(9))
	// The files are read by Open alone: what becomes of them then is not seen, until it is opened again.
	for _, name := range namesOf(f, "sst-") {
		done(t, f.Alter(name, 8, 255), f.Remove(name))
	}
	scans(t, s, "", "", 9, 99, "a=i b=f c=h d=i e=a m=e x=a y=a")
	compacted(t, s, 0, 1, 3)
	scans(t, s, "", "", 9, 99, "a=i b=f c=h d=i e=a m=e x=a y=a")
}

// each lays the tables, with one of them changed by a function of its bytes (no file, if that answers nil).
func each(t testing.TB, number int, change func(b []byte) []byte) *vfs.FS {
	t.Helper()
	f := laid(t, usual(), 9, some()...)
	b, e := f.Read(named(number))
	done(t, e, f.Remove(named(number)), f.SyncNames())
	if b = change(b); b != nil {
		holding(t, f, named(number), b)
	}
	return f
}

func TestOpenWhereATableIsWrong(t *testing.T) {
	for _, x := range some() {
		opened(t, each(t, x.number, func(b []byte) []byte { return b }), usual())
		for what, change := range map[string]func(b []byte) []byte{
			"its file is missing":             func(b []byte) []byte { return nil },
			"no bytes":                        func(b []byte) []byte { return []byte{} },
			"a byte less":                     func(b []byte) []byte { return b[:len(b)-1] },
			"a byte more":                     func(b []byte) []byte { return append(b, 0) },
			"without its first byte":          func(b []byte) []byte { return b[1:] },
			"a byte of the footer is altered": func(b []byte) []byte { b[len(b)-9] ^= 16; return b },
			"a byte of the index is altered":  func(b []byte) []byte { b[len(b)-39] ^= 16; return b },
			"one entry more":                  func(b []byte) []byte { l := x.entries; return more(t, l, entries("A@1=x")).bytes(t, usual()) },
			"another last key": func(b []byte) []byte {
				l := x.entries
				return more(t, l[:len(l)-1], entries("z@1=x")).bytes(t, usual())
			},
			"a last key that begins like its own": func(b []byte) []byte { l := x.entries; return longer(l).bytes(t, usual()) },
		} {
			f := each(t, x.number, change)
			refuses(t, fmt.Sprint("the table ", x.number, ": ", what), f, usual(), api.ErrCorrupt)
			if !slices.Contains(f.Names(), "manifest-000002") || len(namesOf(f, "wal-")) > 0 {
				t.Errorf("the table %d: %s: %q", x.number, what, f.Names())
			}
		}
	}
	// One entry less, where it has several.
	f := each(t, 2, func(b []byte) []byte { return tab{2, 3, some()[4].entries[1:]}.bytes(t, usual()) })
	refuses(t, "one entry less", f, usual(), api.ErrCorrupt)
}

// more is a table of entries, in order, and more.
func more(t testing.TB, l []api.Entry, others []api.Entry) tab {
	t.Helper()
	return tab{1, 0, inOrder(slices.Concat(l, others))}
}

// longer is a table of entries, whose last key is longer by a byte.
func longer(l []api.Entry) tab {
	l = slices.Clone(l)
	l[len(l)-1].Key += "\x00"
	return tab{1, 0, l}
}

// TestOpenDoesNotLookAtTheFirstKey, nor at the blocks: they are read when they are asked for.
func TestOpenDoesNotLookAtTheFirstKey(t *testing.T) {
	f := each(t, 2, func(b []byte) []byte {
		l := slices.Clone(some()[4].entries)
		l[0].Key = "A"
		return tab{2, 3, l}.bytes(t, usual())
	})
	gets(t, opened(t, f, usual()), "e", 9, "a")
	f = each(t, 2, func(b []byte) []byte { b[0] ^= 1; b[12] ^= 1; return b })
	gets(t, opened(t, f, usual()), "e", 9, "a")
}

// TestOpenReadsTheLog: the batches behind the version's Seq are in the memtable, those up to it are not.
func TestOpenReadsTheLog(t *testing.T) {
	f := laid(t, usual(), 9, some()...)
	w := []string{"a=10 q=10", "-a b=11", "a=12 -m"}
	logged(t, f, 3, 9, w...)
	s := opened(t, f, usual())
	if s.Seq() != 12 {
		t.Errorf("Seq: %d", s.Seq())
	}
	scans(t, s, "", "", 12, 99, "a=12 b=11 c=h d=i e=a q=10 x=a y=a")
	for seq := range 12 {
		getFails(t, s, "a", seq, api.ErrStale)
	}
	// Opened again, each time a segment more is held; a flush lets them go.
	names(t, f, "wal-", segment(3), segment(4))
	s = opened(t, f, usual())
	names(t, f, "wal-", segment(3), segment(4), segment(5))
	done(t, s.Flush())
	names(t, f, "wal-", segment(6))
	tables(t, s, append(metas(meta(11, 0, 2, "m", "q"), meta(10, 0, 4, "a", "b")), s.Tables()[2:]...)...)
	has(t, f, usual(), 10, entries("a@12=12 -a@11 a@10=10 b@11=11"))
}

// TestOpenBehindASeq: batches up to the version's Seq that the log still has are in tables.
func TestOpenBehindASeq(t *testing.T) {
	f := newFS(t, 100000)
	logged(t, f, 1, 0, "a=1", "b=2", "c=3")
	table := tab{1, 0, entries("a@1=1 b@2=2")}
	holding(t, f, named(1), table.bytes(t, usual()))
	written(t, f, api.Edit{Adds: metas(table.words()), Log: 1, Seq: 2, Next: 2})
	s := opened(t, f, usual())
	scans(t, s, "", "", 3, 9, "a=1 b=2 c=3")
	flushed(t, s)
	has(t, f, usual(), 2, entries("c@3=3"))
}

func TestOpenPassesOnTheLogsErrors(t *testing.T) {
	f, s := begun(t, usual())
	applied(t, s, "a=1", "b=2")
	done(t, f.SyncNames(), f.Alter(segment(1), 20, 4))
	refuses(t, "an altered segment", f, usual(), api.ErrCorrupt)
	done(t, f.Alter(segment(1), 20, 4))
	gets(t, opened(t, f, usual()), "b", 2, "2")
	// The version's Log and Seq are asked for: what the log has doesn't go behind them.
	f = laid(t, usual(), 9, some()...)
	logged(t, f, 3, 10, "a=11")
	refuses(t, "a batch is missing", f, usual(), api.ErrCorrupt)
	f = laid(t, usual(), 9, some()...)
	logged(t, f, 3, 6, "a=7", "a=8")
	refuses(t, "the log ends ahead of the Seq", f, usual(), api.ErrCorrupt)
	f = laid(t, usual(), 9, some()...)
	logged(t, f, 3, 6, "a=7", "a=8", "a=9", "a=10")
	gets(t, opened(t, f, usual()), "a", 10, "10")
	f = laid(t, usual(), 9, some()...)
	logged(t, f, 2, 10, "a=11")
	gets(t, opened(t, f, usual()), "a", 9, "i")
}

func TestOpenPassesOverATornBatch(t *testing.T) {
	f, s := begun(t, usual())
	applied(t, s, "a=1", "b=2")
	b, _ := f.Read(segment(1))
	for n := range len(b) {
		f := newFS(t, 100000)
		holding(t, f, segment(1), b[:n])
		s := opened(t, f, usual())
		want := 0
		if n >= len(b)/2 {
			want = 1
		}
		if s.Seq() != want {
			t.Errorf("%d bytes of %d: Seq %d", n, len(b), s.Seq())
		}
		applied(t, s, "c=3")
		gets(t, again(t, f, usual()), "c", want+1, "3")
	}
}

// leftovers are names of files that Open removes, rising; others are such as it leaves.
func leftovers() []string {
	return []string{named(0), named(3), named(5), named(8), named(10), named(123456), named(999999), segment(1), segment(2)}
}

func others() []string {
	return []string{
		"sst-", "sst-1", "sst-00003", "sst-0000003", "sst-00000a", "sst-+00003", "sst--00003", "sst-00_003", "sst-0x0003", "Sst-000003", "sst_000003", "sst000003", "xsst-000003", "sst-000003x", "sst-sst-000003", "000003",
		segment(0), "wal-00001", "wal-0000001", "wal-00000a", "wal-+00001", "wal--00001", "Wal-000001", "wal_000001", "wal-000001x", segment(4), segment(7), segment(999999), "manifest-000007", "manifest-000001x", "other",
	}
}

// littered is a file system with tables, and with other files whose names begin alike.
func littered(t testing.TB) *vfs.FS {
	t.Helper()
	f := laid(t, usual(), 9, some()...)
	for _, name := range slices.Concat(leftovers(), others()) {
		holding(t, f, name, []byte("these are no frames"))
	}
	return f
}

func TestOpenRemovesWhatIsLeftOver(t *testing.T) {
	f := littered(t)
	want := slices.DeleteFunc(f.Names(), func(name string) bool { return slices.Contains(leftovers(), name) || name == "manifest-000001" })
	want = append(want, "manifest-000002", segment(3))
	slices.Sort(want)
	s := opened(t, f, usual())
	names(t, f, "", want...)
	// They are not synced: a crash brings them back, and the next Open removes them again.
	if f.Pending() != len(leftovers()) {
		t.Errorf("%d steps are pending", f.Pending())
	}
	for _, name := range others() {
		if b, e := f.Read(name); e != api.OK || string(b) != "these are no frames" {
			t.Errorf("%s: %q, %d", name, b, e)
		}
	}
	scans(t, s, "", "", 9, 99, "a=i b=f c=h d=i e=a m=e x=a y=a")
	done(t, f.Crash(0, 0))
	for _, name := range leftovers() {
		if !slices.Contains(f.Names(), name) {
			t.Errorf("%s is gone", name)
		}
	}
	// The segments from the Log on are read, as far as they are held one behind the other.
	refuses(t, "a segment that is none", f, usual(), api.ErrCorrupt)
	done(t, f.Remove(segment(4)))
	opened(t, f, usual())
	for _, name := range leftovers() {
		if slices.Contains(f.Names(), name) {
			t.Errorf("%s is held", name)
		}
	}
}

// TestOpenRemovesRisingByName burns a fuse down at each step of the removal: first those of tables go, then segments.
func TestOpenRemovesRisingByName(t *testing.T) {
	f := littered(t)
	was := f.Steps()
	opened(t, f, usual())
	steps := f.Steps() - was
	all := leftovers()
	for n := range all {
		f := littered(t)
		done(t, f.Fuse(steps-len(all)+n))
		refuses(t, "it goes off", f, usual(), api.ErrOff)
		if f.On() || f.Pending() != n {
			t.Fatalf("on %v, %d pending", f.On(), f.Pending())
		}
		done(t, f.Crash(n, 0))
		for i, name := range all {
			if held := slices.Contains(f.Names(), name); held != (i >= n) {
				t.Errorf("%d steps of the removal: %s: %v", n, name, held)
			}
		}
	}
}

// TestOpenWithAFuse goes off at each of its steps, and does just those that the chapter says, in their order.
func TestOpenWithAFuse(t *testing.T) {
	make := func() *vfs.FS {
		f := laid(t, usual(), 9, some()...)
		for _, n := range []int{3, 5, 11} {
			holding(t, f, named(n), []byte("left behind"))
		}
		logged(t, f, 3, 9, "a=10", "b=11")
		holding(t, f, segment(1), []byte("left behind"))
		return f
	}
	for n := 0; ; n++ {
		whole := false
		for k := range 12 {
			w := twins(t, usual(), make)
			done(t, w.f.Fuse(n), w.g.Fuse(n))
			whole = w.open()
			w.crash(k, 7*k)
			if !w.open() {
				t.Fatalf("Fuse(%d), Crash(%d, %d)", n, k, 7*k)
			}
			scans(t, w.store, "", "", 11, 3, "a=10 b=11 c=h")
		}
		if whole {
			if n < 15 {
				t.Errorf("Open has just %d steps", n)
			}
			return
		}
	}
}

// TestOpenIsWithoutSnapshots: those of the store that was there are gone, and with them what is below its Seq.
func TestOpenIsWithoutSnapshots(t *testing.T) {
	f, s := begun(t, usual())
	applied(t, s, "a=1")
	taken(t, s)
	applied(t, s, "a=2")
	s = again(t, f, usual())
	if s.Held() != 0 {
		t.Errorf("Held: %d", s.Held())
	}
	getFails(t, s, "a", 1, api.ErrStale)
	answers(t, "Release", s.Release(1), api.ErrArg)
	gets(t, s, "a", 2, "2")
	applied(t, s, "a=3")
	gets(t, s, "a", 2, "2")
	getFails(t, s, "a", 1, api.ErrStale)
	getFails(t, s, "a", 0, api.ErrStale)
}

// TestOpenNeedsRoom: for the manifest alone; the log's new segment has no bytes.
func TestOpenNeedsRoom(t *testing.T) {
	for left := range 400 {
		f := laid(t, usual(), 9, some()...)
		logged(t, f, 3, 9, "a=10")
		fill(t, f, left)
		s, e := Open(f, usual())
		if e != api.OK && e != api.ErrFull || (s != nil) != (e == api.OK) {
			t.Fatalf("%d are left: %v, %d", left, s != nil, e)
		}
		done(t, f.Remove("filler"))
		gets(t, opened(t, f, usual()), "a", 10, "10")
	}
}
