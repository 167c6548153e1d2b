package lsm

import (
	"fmt"
	"math"
	"slices"
	"testing"

	"stagepost/api"
	"stagepost/frame"
	"stagepost/manifest"
	"stagepost/vfs"
)

// These are the tests of P11.6.

// row are n tables of a level, one key each, from the number first on.
func row(n, level, first int) []tab {
	var l []tab
	for i := range n {
		l = append(l, tab{first + i, level, []api.Entry{{Key: key(i), Value: "v", Seq: 1}}})
	}
	return l
}

// due says which level is due in a store with these tables.
func due(t *testing.T, top int, want int, rows ...[]tab) {
	t.Helper()
	f := newFS(t, 1<<20)
	e := api.Edit{Log: 1, Seq: 1, Next: 5000}
	for _, x := range slices.Concat(rows...) {
		holding(t, f, named(x.number), x.bytes(t, usual()))
		e.Adds = append(e.Adds, x.words())
	}
	written(t, f, e)
	if got := opened(t, f, settings(top, 4)).Due(); got != want {
		t.Errorf("Due with Top %d: %d, not %d", top, got, want)
	}
}

func TestDue(t *testing.T) {
	due(t, 1, -1)
	for _, top := range []int{1, 2, 3, 64} {
		due(t, top, -1, row(top, 0, 1))
		due(t, top, 0, row(top+1, 0, 1))
	}
	for level, times := range []int{1, 4, 16, 64, 256} {
		due(t, 1, -1, row(times, level, 1))
		due(t, 1, level, row(times+1, level, 1))
		if times < 256 {
			due(t, 3, -1, row(3*times, level, 1))
			due(t, 3, level, row(3*times+1, level, 1))
		}
	}
	// The last two are never due: there are not so many tables, and the last one has no next one.
	due(t, 1, -1, row(1024, 5, 1))
	due(t, 1, -1, row(1024, 6, 1))
	// The lowest one comes first.
	due(t, 1, 0, row(2, 0, 1), row(5, 1, 100), row(17, 2, 200))
	due(t, 1, 1, row(1, 0, 1), row(5, 1, 100), row(17, 2, 200))
	due(t, 1, 2, row(1, 0, 1), row(4, 1, 100), row(17, 2, 200))
	due(t, 1, -1, row(1, 0, 1), row(4, 1, 100), row(16, 2, 200), row(300, 6, 300))
}

func TestCompactOfNoLevel(t *testing.T) {
	f, s := begun(t, usual())
	flushed(t, s, "a=1", "a=2")
	applied(t, s, "b=3")
	for _, level := range []int{-1, 6, 7, -2, math.MinInt, math.MaxInt} {
		rejects(t, f, s, fmt.Sprintf("Compact(%d)", level), func() api.Errno { return s.Compact(level) }, api.ErrArg)
	}
	// A level without tables is done at once, without a step, and passes nothing.
	done(t, f.Fuse(0))
	for level := 1; level <= 5; level++ {
		rejects(t, f, s, fmt.Sprintf("Compact(%d)", level), func() api.Errno { return s.Compact(level) }, api.OK)
	}
	if !f.On() {
		t.Errorf("it is off")
	}
	done(t, f.Safe())
	compacted(t, s, 0)
	getFails(t, s, "a", 1, api.ErrStale)
	_, s = begun(t, usual())
	for level := range 6 {
		answers(t, "Compact of a new one", s.Compact(level), api.OK)
	}
}

// compactOf opens a store with these tables, and compacts a level. It answers what became of it.
func compactOf(t testing.TB, set api.Settings, level int, tabs ...tab) (*vfs.FS, *Store) {
	t.Helper()
	f := laid(t, set, 9, tabs...)
	s := opened(t, f, set)
	compacted(t, s, level)
	return f, s
}

// become says which tables there are, with which entries, and that the files of no others are held.
func become(t testing.TB, f *vfs.FS, s *Store, set api.Settings, want ...tab) {
	t.Helper()
	var words []api.Meta
	var files []string
	for _, x := range want {
		words, files = append(words, x.words()), append(files, named(x.number))
		has(t, f, set, x.number, x.entries)
	}
	slices.Sort(files)
	tables(t, s, words...)
	names(t, f, "sst-", files...)
	again := opened(t, f, set)
	tables(t, again, words...)
}

// TestCompactTakesAllOfLevel0, and of the next one what meets the range from the least First to the greatest Last.
func TestCompactTakesAllOfLevel0(t *testing.T) {
	set := settings(2, 100)
	zero := []tab{{8, 0, entries("d@8=8 e@8=8")}, {7, 0, entries("m@7=7")}}
	// A range between both is met though neither has it, and so are those that have the first or the last key alone.
	f, s := compactOf(t, set, 0, append(zero, tab{1, 1, entries("a@1=1 d@1=1")}, tab{2, 1, entries("f@1=1 g@1=1")}, tab{3, 1, entries("m@1=1 n@1=1")}, tab{4, 1, entries("o@1=1")})...)
	wrote(t, f, api.Edit{Drops: []int{8, 7, 1, 2, 3}, Adds: metas(meta(9, 1, 7, "a", "n")), Log: 3, Seq: 9, Next: 10})
	become(t, f, s, set, tab{9, 1, entries("a@1=1 d@8=8 e@8=8 f@1=1 g@1=1 m@7=7 n@1=1")}, tab{4, 1, entries("o@1=1")})
	// Those that end just ahead of it, or begin just behind it, are not.
	f, s = compactOf(t, set, 0, append(zero, tab{1, 1, entries("a@1=1 cz@1=1")}, tab{2, 1, entries("m\x00@1=1 n@1=1")})...)
	wrote(t, f, api.Edit{Drops: []int{8, 7}, Adds: metas(meta(9, 1, 3, "d", "m")), Log: 3, Seq: 9, Next: 10})
	become(t, f, s, set, tab{1, 1, entries("a@1=1 cz@1=1")}, tab{9, 1, entries("d@8=8 e@8=8 m@7=7")}, tab{2, 1, entries("m\x00@1=1 n@1=1")})
	// One that has all of it is met.
	f, s = compactOf(t, set, 0, append(zero, tab{1, 1, entries("a@1=1 z@1=1")})...)
	become(t, f, s, set, tab{9, 1, entries("a@1=1 d@8=8 e@8=8 m@7=7 z@1=1")})
	// The range is that of all tables of the level, in whatever order their keys stand.
	zero[0], zero[1] = tab{8, 0, entries("m@8=8")}, tab{7, 0, entries("d@7=7 e@7=7")}
	f, s = compactOf(t, set, 0, append(zero, tab{1, 1, entries("f@1=1")}, tab{2, 1, entries("n@1=1")})...)
	become(t, f, s, set, tab{9, 1, entries("d@7=7 e@7=7 f@1=1 m@8=8")}, tab{2, 1, entries("n@1=1")})
	// The least First may be that of one table, the greatest Last that of the same.
	zero[0], zero[1] = tab{8, 0, entries("a@8=8 z@8=8")}, tab{7, 0, entries("d@7=7 e@7=7")}
	f, s = compactOf(t, set, 0, append(zero, tab{1, 1, entries("b@1=1")}, tab{2, 1, entries("n@1=1")})...)
	become(t, f, s, set, tab{9, 1, entries("a@8=8 b@1=1 d@7=7 e@7=7 n@1=1 z@8=8")})
}

// TestCompactTakesTheFirstOfAnotherLevel, and of the next one what meets its range.
func TestCompactTakesTheFirstOfAnotherLevel(t *testing.T) {
	set := settings(2, 100)
	for level := 1; level <= 5; level++ {
		first, second := tab{8, level, entries("d@8=8 g@8=8")}, tab{2, level, entries("m@8=8")}
		other := tab{9, 0, entries("d@9=9 m@9=9")}
		all := []tab{other, first, second, {1, level + 1, entries("a@1=1 c@1=1")}, {3, level + 1, entries("cz@1=1 d@1=1")}, {4, level + 1, entries("e@1=1")}, {5, level + 1, entries("g@1=1 n@1=1")}, {6, level + 1, entries("o@1=1")}}
		f, s := compactOf(t, set, level, all...)
		wrote(t, f, api.Edit{Drops: []int{8, 3, 4, 5}, Adds: metas(meta(10, level+1, 5, "cz", "n")), Log: 3, Seq: 9, Next: 11})
		become(t, f, s, set, other, second, all[3], tab{10, level + 1, entries("cz@1=1 d@8=8 e@1=1 g@8=8 n@1=1")}, all[7])
		// Where nothing is met, it goes alone; and the next time the other one does.
		s = opened(t, f, set)
		compacted(t, s, level)
		compacted(t, s, level)
		tables(t, s, append(metas(other.words(), all[3].words()), s.Tables()[2:]...)...)
		scans(t, s, "", "", 9, 99, "a=1 c=1 cz=1 d=9 e=1 g=8 m=9 n=1 o=1")
	}
}

// TestCompactFolds: what nobody may ask for any more goes.
func TestCompactFolds(t *testing.T) {
	f, s := begun(t, settings(2, 100))
	flushed(t, s, "a=1 b=1 c=1", "a=2 -b", "-a b=3", "a=4 -c")
	compacted(t, s, 0)
	become(t, f, s, settings(2, 100), tab{2, 1, entries("a@4=4 b@3=3")})
	// With snapshots all that is visible at one of them stays, deletes that hide something among it.
	f, s = begun(t, settings(2, 100))
	applied(t, s, "a=1 b=1 c=1 d=1")
	taken(t, s)
	applied(t, s, "a=2 -b")
	taken(t, s)
	applied(t, s, "-a b=3 -d", "a=4 -c d=4", "a=5 e=5", "-e")
	done(t, s.Flush())
	compacted(t, s, 0)
	become(t, f, s, settings(2, 100), tab{2, 1, entries("a@5=5 a@2=2 a@1=1 b@3=3 -b@2 b@1=1 -c@4 c@1=1 d@4=4 d@1=1")})
	scans(t, s, "", "", 1, 9, "a=1 b=1 c=1 d=1")
	scans(t, s, "", "", 2, 9, "a=2 c=1 d=1")
	scans(t, s, "", "", 6, 9, "a=5 b=3 d=4")
}

// TestCompactKeepsTheSeq: what is in the memtable doesn't hide what stands below it, as long as its Seq may be asked for.
func TestCompactKeepsTheSeq(t *testing.T) {
	f, s := begun(t, settings(2, 100))
	flushed(t, s, "a=1 b=1", "a=2")
	applied(t, s, "-a", "b=4")
	compacted(t, s, 0)
	become(t, f, s, settings(2, 100), tab{2, 1, entries("a@2=2 b@1=1")})
	_, s = begun(t, settings(2, 100))
	flushed(t, s, "a=1 b=1", "a=2")
	seq := taken(t, s)
	applied(t, s, "-a", "b=4")
	compacted(t, s, 0)
	scans(t, s, "", "", seq, 9, "a=2 b=1")
	scans(t, s, "", "", 4, 9, "b=4")
}

// TestDeletesStayForDeeperLevels: they go just where nothing below is in the range of all that is taken.
func TestDeletesStayForDeeperLevels(t *testing.T) {
	set := settings(2, 100)
	zero, one := tab{8, 0, entries("-c@8 d@8=8")}, tab{7, 1, entries("-a@7 b@6=6 c@6=6")}
	gone := tab{9, 1, entries("b@6=6 d@8=8")}
	stay := tab{9, 1, entries("-a@7 b@6=6 -c@8 d@8=8")}
	for level := 2; level <= 6; level++ {
		for _, c := range []struct {
			deep tab
			want tab
		}{
			{tab{1, level, entries("a@1=1")}, stay}, // the range of what is met on the next level counts, too
			{tab{1, level, entries("d@1=1 e@1=1")}, stay},
			{tab{1, level, entries("A@1=1 z@1=1")}, stay},
			{tab{1, level, entries("c@1=1")}, stay},
			{tab{1, level, entries("A@1=1 a@1=1")}, stay},
			{tab{1, level, entries("A@1=1 B@1=1")}, gone},
			{tab{1, level, entries("d\x00@1=1 e@1=1")}, gone},
			{tab{1, level, entries("e@1=1")}, gone},
		} {
			f, s := compactOf(t, set, 0, zero, one, c.deep)
			become(t, f, s, set, c.want, c.deep)
			lacks(t, s, "a", 9)
			lacks(t, s, "c", 9)
		}
	}
	// Those of the next level that are not met are not below it.
	f, s := compactOf(t, set, 0, zero, one, tab{1, 1, entries("e@1=1")})
	become(t, f, s, set, gone, tab{1, 1, entries("e@1=1")})
	// Nor are those of the level itself, or ahead of it.
	one, two := tab{8, 1, entries("-c@8 d@8=8")}, tab{7, 2, entries("-a@7 b@6=6 c@6=6")}
	f, s = compactOf(t, set, 1, tab{3, 0, entries("a@9=9 d@9=9")}, one, tab{4, 1, entries("e@8=8")}, two)
	become(t, f, s, set, tab{3, 0, entries("a@9=9 d@9=9")}, tab{4, 1, entries("e@8=8")}, tab{9, 2, entries("b@6=6 d@8=8")})
	// The last level of all has nothing below it.
	five, six := tab{8, 5, entries("-c@8 d@8=8")}, tab{7, 6, entries("-a@7 b@6=6 c@6=6")}
	f, s = compactOf(t, set, 5, five, six)
	become(t, f, s, set, tab{9, 6, entries("b@6=6 d@8=8")})
}

// TestWhatIsDeletedStaysSo: through all levels, with an old version at the bottom.
func TestWhatIsDeletedStaysSo(t *testing.T) {
	f, s := begun(t, settings(2, 1))
	flushed(t, s, "a=1 b=1 c=1")
	for level := range 6 {
		compacted(t, s, level)
		if level > 0 {
			compacted(t, s, level, level)
		}
	}
	tables(t, s, meta(s.Tables()[0].Number, 6, 1, "a", "a"), meta(s.Tables()[1].Number, 6, 1, "b", "b"), meta(s.Tables()[2].Number, 6, 1, "c", "c"))
	flushed(t, s, "-b", "-zz")
	for level := range 6 {
		scans(t, s, "", "", 3, 9, "a=1 c=1")
		compacted(t, s, level)
		if level > 0 {
			compacted(t, s, level)
		}
		lacks(t, s, "b", 3)
	}
	if l := s.Tables(); len(l) != 2 || l[0].Level != 6 {
		t.Errorf("Tables: %v", l)
	}
	scans(t, again(t, f, usual()), "", "", 3, 9, "a=1 c=1")
}

// TestCompactCuts as Flush does.
func TestCompactCuts(t *testing.T) {
	for most, want := range map[int][]string{
		1:     {"a@4=4 a@3=3 -a@2 a@1=1", "b@1=1", "c@3=3 c@1=1", "d@1=1", "e@1=1"},
		2:     {"a@4=4 a@3=3 -a@2 a@1=1", "b@1=1 c@3=3 c@1=1", "d@1=1 e@1=1"},
		3:     {"a@4=4 a@3=3 -a@2 a@1=1", "b@1=1 c@3=3 c@1=1", "d@1=1 e@1=1"},
		4:     {"a@4=4 a@3=3 -a@2 a@1=1", "b@1=1 c@3=3 c@1=1 d@1=1", "e@1=1"},
		5:     {"a@4=4 a@3=3 -a@2 a@1=1 b@1=1", "c@3=3 c@1=1 d@1=1 e@1=1"},
		6:     {"a@4=4 a@3=3 -a@2 a@1=1 b@1=1 c@3=3 c@1=1", "d@1=1 e@1=1"},
		8:     {"a@4=4 a@3=3 -a@2 a@1=1 b@1=1 c@3=3 c@1=1 d@1=1", "e@1=1"},
		9:     {"a@4=4 a@3=3 -a@2 a@1=1 b@1=1 c@3=3 c@1=1 d@1=1 e@1=1"},
		10:    {"a@4=4 a@3=3 -a@2 a@1=1 b@1=1 c@3=3 c@1=1 d@1=1 e@1=1"},
		65536: {"a@4=4 a@3=3 -a@2 a@1=1 b@1=1 c@3=3 c@1=1 d@1=1 e@1=1"},
	} {
		set := settings(2, most)
		f, s := begun(t, settings(2, 100))
		taken(t, s)
		for _, b := range []string{"a=1 b=1 c=1 d=1 e=1", "-a", "a=3 c=3", "a=4"} {
			flushed(t, s, b)
			taken(t, s)
		}
		// The settings of tables that are made are those of the store that makes them.
		s.settings = set
		compacted(t, s, 0)
		var all []tab
		for i, l := range want {
			all = append(all, tab{5 + i, 1, entries(l)})
		}
		wrote(t, f, api.Edit{Drops: []int{4, 3, 2, 1}, Adds: s.Tables(), Log: 5, Seq: 4, Next: 5 + len(all)})
		become(t, f, s, set, all...)
	}
}

// TestCompactToNothing: no file is made, but the names are synced, and the edit is written.
func TestCompactToNothing(t *testing.T) {
	f, s := begun(t, usual())
	flushed(t, s, "a=1 b=1", "-a -b")
	applied(t, s, "c=3")
	was := f.Steps()
	compacted(t, s, 0)
	tables(t, s)
	names(t, f, "", "current", "manifest-000001", segment(2))
	wrote(t, f, api.Edit{Drops: []int{1}, Log: 2, Seq: 2, Next: 2})
	// The names, the edit, its file, the name that is removed.
	if got := f.Steps() - was; got != 1+1+1+1 || f.Pending() != 1 {
		t.Errorf("%d steps, %d pending", got, f.Pending())
	}
	scans(t, s, "", "", 3, 9, "c=3")
	scans(t, again(t, f, usual()), "", "", 3, 9, "c=3")
	names(t, f, "sst-")
	// The number is there still.
	s = opened(t, f, usual())
	done(t, s.Flush())
	tables(t, s, meta(2, 0, 1, "c", "c"))
}

// TestTheStepsOfACompaction, one by one.
func TestTheStepsOfACompaction(t *testing.T) {
	f, s := begun(t, usual())
	flushed(t, s, "a=1 b=1 c=1")
	flushed(t, s, "d=2 e=2 f=2")
	applied(t, s, "a=3")
	was := f.Steps()
	segments := namesOf(f, "wal-")
	compacted(t, s, 0)
	raws := func(b []byte) int { return (len(b) + 63) / 64 }
	one, _ := f.Read(named(3))
	two, _ := f.Read(named(4))
	record, _ := manifest.Encode(lastEdit(t, f))
	edit, _ := frame.Append(nil, record)
	// Each file is created, written and synced; the names are synced; the edit is written and synced; the taken ones are removed, which is not synced. The log stays as it is.
	want := (1 + raws(one) + 1) + (1 + raws(two) + 1) + 1 + (raws(edit) + 1) + 2
	if got := f.Steps() - was; got != want || f.Pending() != 2 {
		t.Errorf("%d steps, not %d; %d pending", got, want, f.Pending())
	}
	names(t, f, "wal-", segments...)
	wrote(t, f, api.Edit{Drops: []int{2, 1}, Adds: metas(meta(3, 1, 4, "a", "d"), meta(4, 1, 2, "e", "f")), Log: 3, Seq: 2, Next: 5})
	scans(t, s, "", "", 3, 9, "a=3 b=1 c=1 d=2 e=2 f=2")
}

// grown is a file system with a store that has tables of several levels, and batches in its log.
func grown(t testing.TB) *vfs.FS {
	t.Helper()
	f := newFS(t, 1<<16)
	s := opened(t, f, settings(1, 2))
	flushed(t, s, "a=1 b=1 c=1 d=1 e=1")
	compacted(t, s, 0)
	flushed(t, s, "b=2 -d", "-b x=3")
	compacted(t, s, 1)
	flushed(t, s, "c=4 -zz", "d=5 -e")
	applied(t, s, "a=6")
	return f
}

// TestCompactWithAFuse goes off at each of its steps, and does just those that the chapter says, in their order. Whatever is lost then, the store has it all.
func TestCompactWithAFuse(t *testing.T) {
	for level := range 3 {
		for n := 0; ; n++ {
			whole := false
			for k := range 8 {
				w := twins(t, settings(1, 2), func() *vfs.FS { return grown(t) })
				w.open()
				done(t, w.f.Fuse(n), w.g.Fuse(n))
				whole = w.do("Compact", func(s asked) string { return played(s, fmt.Sprint("C", level)) }) == "Compact 0"
				if !whole {
					stoppedBy(t, w.store, api.ErrOff)
				}
				w.crash(k, 9*k)
				if !w.open() {
					t.Fatalf("Compact(%d), Fuse(%d), Crash(%d, %d): Open", level, n, k, 9*k)
				}
				scans(t, w.store, "", "", 6, 9, "a=6 c=4 d=5 x=3")
				w.play(fmt.Sprint("C", level), "F", "C0", "b=7", "C1", "F", "C0", "C2")
				scans(t, w.store, "", "", 7, 9, "a=6 b=7 c=4 d=5 x=3")
			}
			if whole {
				if n < 8 {
					t.Errorf("Compact(%d) has just %d steps", level, n)
				}
				break
			}
		}
	}
}

// TestCompactRemovesInTheOrderOfTheDrops: each step of the removal, one behind the other.
func TestCompactRemovesInTheOrderOfTheDrops(t *testing.T) {
	all := []tab{{8, 0, entries("d@8=8")}, {6, 0, entries("b@6=6 f@6=6")}, {9, 1, entries("a@1=1 b@1=1")}, {1, 1, entries("c@1=1")}, {5, 1, entries("e@1=1 g@1=1")}}
	order := []int{8, 6, 9, 1, 5}
	f := laid(t, usual(), 9, all...)
	s := opened(t, f, usual())
	was := f.Steps()
	compacted(t, s, 0)
	steps := f.Steps() - was
	if drops := lastEdit(t, f).Drops; !slices.Equal(drops, order) {
		t.Fatalf("Drops: %v", drops)
	}
	for n := range order {
		f := laid(t, usual(), 9, all...)
		s := opened(t, f, usual())
		done(t, f.Fuse(steps-len(order)+n))
		answers(t, "Compact", s.Compact(0), api.ErrOff)
		stoppedBy(t, s, api.ErrOff)
		if f.Pending() != n {
			t.Errorf("%d pending, not %d", f.Pending(), n)
		}
		done(t, f.Crash(n, 0))
		for i, number := range order {
			if held := slices.Contains(f.Names(), named(number)); held != (i >= n) {
				t.Errorf("%d are removed: %s: %v", n, named(number), held)
			}
		}
	}
}

// TestCompactWhereThereIsNoRoom: refused, it leaves all that can be asked as it was, files aside; and it passes, as soon as there is room.
func TestCompactWhereThereIsNoRoom(t *testing.T) {
	seen := map[api.Errno]int{}
	for left := 0; left < 1500; left += 7 {
		f := grown(t)
		s := opened(t, f, settings(1, 2))
		applied(t, s, "a=7", "-c")
		fill(t, f, left)
		was := tell(s)
		e := s.Compact(0)
		seen[e]++
		if e == api.OK {
			getFails(t, s, "a", 7, api.ErrStale)
			continue
		}
		answers(t, "Compact", e, api.ErrFull)
		// Nothing is passed by it, either.
		if now := tell(s); now != was {
			t.Fatalf("%d are left: Compact was refused, and changed\n%s\ninto\n%s", left, was, now)
		}
		gets(t, s, "a", 7, "7")
		answers(t, "Compact again", s.Compact(0), api.ErrFull)
		done(t, f.Remove("filler"), f.SyncNames())
		if left%2 == 0 {
			s = again(t, f, settings(1, 2))
		}
		compacted(t, s, 0)
		scans(t, s, "", "", 8, 9, "a=7 d=5 x=3")
		scans(t, again(t, f, usual()), "", "", 8, 9, "a=7 d=5 x=3")
		if n := len(namesOf(f, "sst-")); n != len(s.Tables()) {
			t.Errorf("%d files, %d tables", n, len(s.Tables()))
		}
	}
	if seen[api.ErrFull] < 40 || seen[api.OK] < 20 {
		t.Errorf("what Compact answered: %v", seen)
	}
}

// TestCompactReadsAllBlocks of the tables that it takes, and of no others.
func TestCompactReadsAllBlocks(t *testing.T) {
	all := []tab{
		{8, 0, entries("d@8=8 e@8=8 f@8=8")}, {6, 0, entries("b@6=6 -d@6 -f@6")},
		{4, 1, entries("a@1=1 b@1=1 c@1=1 d@1=1 e@1=1")}, {5, 1, entries("g@1=1 h@1=1")}, {3, 2, entries("a@1=1 d@1=1 z@1=1")},
	}
	for i, x := range all {
		for n := range (len(x.entries) + 1) / 2 {
			f := laid(t, usual(), 9, all...)
			alter(t, f, x, 2, n)
			s := opened(t, f, usual())
			if i >= 3 {
				compacted(t, s, 0)
				gets(t, s, "d", 9, "8")
				continue
			}
			files := look(f)
			answers(t, "Compact", s.Compact(0), api.ErrCorrupt)
			stoppedBy(t, s, api.ErrCorrupt)
			if now := look(f); now != files {
				t.Errorf("Compact was refused, and changed\n%s\ninto\n%s", files, now)
			}
		}
	}
}

func TestCompactWhereNoNumberIsLeft(t *testing.T) {
	lay := func(next int, tabs ...tab) (*vfs.FS, *Store) {
		f := newFS(t, 1<<16)
		e := api.Edit{Log: 1, Seq: 9, Next: next}
		for _, x := range tabs {
			holding(t, f, named(x.number), x.bytes(t, usual()))
			e.Adds = append(e.Adds, x.words())
		}
		written(t, f, e)
		return f, opened(t, f, usual())
	}
	f, s := lay(999998, tab{2, 0, entries("a@9=9 b@9=9 c@9=9 d@9=9")})
	compacted(t, s, 0)
	tables(t, s, meta(999998, 1, 4, "a", "d"))
	rejects(t, f, s, "no number is left", func() api.Errno { return s.Compact(1) }, api.ErrLong)
	f, s = lay(999998, tab{2, 0, entries("a@9=9 b@9=9 c@9=9 d@9=9 e@9=9")})
	rejects(t, f, s, "one number is left, for two tables", func() api.Errno { return s.Compact(0) }, api.ErrLong)
	// What becomes nothing needs none.
	_, s = lay(999999, tab{2, 0, entries("-a@9 -b@9")})
	compacted(t, s, 0)
	tables(t, s)
}

// TestCompactUpToTheMostTables: 1,024 may be there, one more is too many. Those that are taken don't count.
func TestCompactUpToTheMostTables(t *testing.T) {
	wide := settings(1, 65536)
	f, s := begun(t, wide)
	singles(t, s, 0, 1024)
	flushed(t, s)
	s = opened(t, f, settings(1, 1))
	compacted(t, s, 0)
	if n := len(s.Tables()); n != 1024 || s.Due() != 1 {
		t.Errorf("%d tables, Due %d", n, s.Due())
	}
	// Each goes on alone, with as many there.
	compacted(t, s, 1)
	if n := len(s.Tables()); n != 1024 {
		t.Errorf("%d tables", n)
	}
	f, s = begun(t, wide)
	singles(t, s, 0, 1025)
	flushed(t, s)
	s = opened(t, f, settings(1, 1))
	rejects(t, f, s, "1,025 tables", func() api.Errno { return s.Compact(0) }, api.ErrLong)
	s = opened(t, f, settings(1, 2))
	compacted(t, s, 0)
	if n := len(s.Tables()); n != 513 {
		t.Errorf("%d tables", n)
	}
	// One that is not taken counts.
	f, s = begun(t, wide)
	flushed(t, s, "zz=1")
	compacted(t, s, 0)
	singles(t, s, 0, 1024)
	flushed(t, s)
	s = opened(t, f, settings(1, 1))
	rejects(t, f, s, "1,024 and one", func() api.Errno { return s.Compact(0) }, api.ErrLong)
	s = opened(t, f, wide)
	compacted(t, s, 0)
	tables(t, s, meta(4, 1, 1024, key(0), key(1023)), meta(2, 1, 1, "zz", "zz"))
}

// TestCompactWhereAFileIsGone: what somebody removed is not read again, and needs no removing.
func TestCompactWhereAFileIsGone(t *testing.T) {
	f, s := begun(t, usual())
	flushed(t, s, "a=1")
	flushed(t, s, "b=2")
	done(t, f.Remove(named(2)))
	compacted(t, s, 0)
	become(t, f, s, usual(), tab{3, 1, entries("a@1=1 b@2=2")})
}

// TestCompactWhereNamesAreHeld: what a flush or a compaction left that was refused is removed.
func TestCompactWhereNamesAreHeld(t *testing.T) {
	w := twins(t, settings(1, 2), func() *vfs.FS { return grown(t) })
	w.open()
	next := lastEdit(t, w.f).Next
	for _, f := range []*vfs.FS{w.f, w.g} {
		holding(t, f, named(next), []byte("left behind"))
		holding(t, f, named(next+1), nil)
	}
	w.play("C0")
	scans(t, w.store, "", "", 6, 9, "a=6 c=4 d=5 x=3")
}

// TestErrorsOfCompactInTheirOrder: to each call several of them apply (rule 1).
func TestErrorsOfCompactInTheirOrder(t *testing.T) {
	lay := func(next int) (*vfs.FS, *Store) {
		x := tab{1, 0, entries("a@9=9 b@9=9")}
		f := newFS(t, 1<<14)
		holding(t, f, named(1), x.bytes(t, usual()))
		written(t, f, api.Edit{Adds: metas(x.words()), Log: 1, Seq: 9, Next: next})
		if next == 5 {
			alter(t, f, x, 2, 0)
		}
		return f, opened(t, f, usual())
	}
	f, s := lay(999999)
	fill(t, f, 0)
	answers(t, "no level", s.Compact(-1), api.ErrArg)
	answers(t, "no table", s.Compact(1), api.OK)
	answers(t, "too long, full", s.Compact(0), api.ErrLong)
	answers(t, "Stopped", s.Stopped(), api.OK)
	off(t, f)
	answers(t, "too long, full, off", s.Compact(0), api.ErrOff)
	f, s = lay(7)
	fill(t, f, 0)
	answers(t, "full", s.Compact(0), api.ErrFull)
	off(t, f)
	answers(t, "no level, off", s.Compact(-1), api.ErrOff)
	answers(t, "full, stopped", s.Compact(0), api.ErrOff)
	f, s = lay(7)
	off(t, f)
	answers(t, "no table, off", s.Compact(1), api.ErrOff)
	f, s = lay(5)
	off(t, f)
	answers(t, "altered, off", s.Compact(0), api.ErrOff)
	answers(t, "stopped, no level", s.Compact(9), api.ErrOff)
	_, s = lay(5)
	answers(t, "altered", s.Compact(0), api.ErrCorrupt)
	answers(t, "stopped, no level", s.Compact(9), api.ErrCorrupt)
	s = nil
	answers(t, "none", s.Compact(9), api.ErrNil)
}
