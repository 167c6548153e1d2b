package lsm

import (
	"fmt"
	"math"
	"slices"
	"testing"

	"stagepost/api"
	"stagepost/block"
	"stagepost/bloom"
	"stagepost/frame"
	"stagepost/vfs"
)

// These are the tests of Get (P11.3), and of what both Get and Scan refuse.

// staleAt says at which Seqs the state may be asked for, from below the first to above the last one.
func staleAt(t *testing.T, s *Store, last int, may ...int) {
	t.Helper()
	for _, seq := range []int{math.MinInt, -1, last + 1, last + 2, maxSeq, maxSeq + 1, math.MaxInt} {
		if seq > last || seq < 0 {
			getFails(t, s, "a", seq, api.ErrStale)
			scanFails(t, s, "", "", seq, 9, api.ErrStale)
			scanFails(t, s, "", "", seq, -1, api.ErrStale)
		}
	}
	for seq := range last + 1 {
		want := api.ErrStale
		if slices.Contains(may, seq) {
			want = api.OK
		}
		_, _, e := s.Get("a", seq)
		_, fault := s.Scan(api.Span{}, seq, 9)
		if e != want || fault != want {
			t.Errorf("at %d: Get %d, Scan %d; not %d", seq, e, fault, want)
		}
	}
}

func TestWhatMayBeAskedFor(t *testing.T) {
	f, s := begun(t, usual())
	staleAt(t, s, 0, 0)
	applied(t, s, "a=1", "a=2", "b=3")
	staleAt(t, s, 3, 0, 1, 2, 3)
	// A flush passes nothing, nor does a compaction that takes no table, or is refused.
	done(t, s.Flush(), s.Compact(1), s.Compact(5))
	answers(t, "Compact", s.Compact(6), api.ErrArg)
	staleAt(t, s, 3, 0, 1, 2, 3)
	compacted(t, s, 0)
	staleAt(t, s, 3, 3)
	applied(t, s, "a=4")
	taken(t, s)
	applied(t, s, "-a", "b=6")
	staleAt(t, s, 6, 3, 4, 5, 6)
	// What is in the memtable is passed, too, by a compaction of what is not.
	compacted(t, s, 1)
	staleAt(t, s, 6, 4, 6)
	gets(t, s, "a", 4, "4")
	lacks(t, s, "a", 6)
	taken(t, s)
	flushed(t, s, "c=7", "c=8")
	staleAt(t, s, 8, 4, 6, 7, 8)
	compacted(t, s, 0)
	staleAt(t, s, 8, 4, 6, 8)
	answers(t, "Release", s.Release(4), api.OK)
	staleAt(t, s, 8, 6, 8)
	answers(t, "Release", s.Release(6), api.OK)
	staleAt(t, s, 8, 8)
	// It is passed by opening, too.
	applied(t, s, "a=9", "a=10")
	staleAt(t, s, 10, 8, 9, 10)
	taken(t, s)
	s = again(t, f, usual())
	staleAt(t, s, 10, 10)
	applied(t, s, "a=11")
	staleAt(t, s, 11, 10, 11)
}

// TestGetOverTheLevels: keys that are put, deleted and put again, all of whose versions somebody holds, wherever they are.
func TestGetOverTheLevels(t *testing.T) {
	for _, most := range []int{1, 2, 3, 100} {
		f, s := begun(t, settings(1, most, 2, 1, 3))
		var p past
		apply := func(b string) {
			t.Helper()
			applied(t, s, b)
			p = append(p, writes(b))
			taken(t, s)
			for seq := 1; seq <= len(p); seq++ {
				p.tellsAll(t, s, seq)
			}
		}
		for round := range 4 {
			apply(fmt.Sprintf("a=%d b=%d q=%d", round, round, round))
			apply("-a c=1 m=")
			done(t, s.Flush())
			apply("a=x -b -c -zz")
			apply("-a b=y z=z")
			done(t, s.Flush())
			compacted(t, s, []int{0, 1, 2}[:3-round]...)
		}
		levels := map[int]int{}
		for _, x := range s.Tables() {
			levels[x.Level]++
		}
		if len(levels) < 3 {
			t.Errorf("Most %d: just these levels: %v", most, levels)
		}
		// Opened again, just the last state may be asked for.
		s = again(t, f, settings(1, most))
		p.tellsAll(t, s, len(p))
	}
}

// TestGetOfOddKeys: what no batch can have is not there.
func TestGetOfOddKeys(t *testing.T) {
	_, s := begun(t, usual())
	applied(t, s, "a=1 b=2")
	for range 3 {
		for _, k := range []string{"", "A", "a\x00", "aa", "c", "\x00", "\xff\xff", long(512), long(513), long(100000)} {
			lacks(t, s, k, 1)
		}
		gets(t, s, "a", 1, "1")
		done(t, s.Flush(), s.Compact(0))
	}
}

// TestAnEmptyValueIsThere, unlike a key that was deleted.
func TestAnEmptyValueIsThere(t *testing.T) {
	_, s := begun(t, usual())
	applied(t, s, "a= b=1", "b= c=1", "-c")
	for range 3 {
		gets(t, s, "a", 3, "")
		gets(t, s, "b", 3, "")
		lacks(t, s, "c", 3)
		scans(t, s, "", "", 3, 9, "a= b=")
		done(t, s.Flush(), s.Compact(0))
	}
}

// blockOf is where the frame of a block of a table begins, and how many bytes it has.
func blockOf(t testing.TB, l []api.Entry, per, n int) (at, size int) {
	t.Helper()
	for i, part := range slices.Collect(slices.Chunk(l, per)) {
		record, e := block.Encode(part)
		done(t, e)
		b, e := frame.Append(nil, record)
		done(t, e)
		if i == n {
			return at, len(b)
		}
		at += len(b)
	}
	t.Fatalf("there is no block %d of %d entries", n, len(l))
	return 0, 0
}

// alter turns a bit of a block of a table.
func alter(t testing.TB, f *vfs.FS, x tab, per, n int) {
	t.Helper()
	at, size := blockOf(t, x.entries, per, n)
	done(t, f.SyncNames(), f.Alter(named(x.number), at+size-5, 1))
}

// TestGetReadsUpToTheFirstVersion: what stands behind it is not read, be it altered; what stands ahead of it is.
func TestGetReadsUpToTheFirstVersion(t *testing.T) {
	top, under, deep, deepest := tab{9, 0, entries("kb@9=9 kd@9=9")}, tab{8, 0, entries("kb@8=8 kc@8=8 -kd@8")}, tab{7, 1, entries("ka@7=7 kb@7=7 -kc@7 kd@7=7 ke@7=7")}, tab{6, 2, entries("ka@6=6 kb@6=6 kc@6=6 -ke@6")}
	all := []tab{top, under, deep, deepest}
	set := settings(2, 4)
	set.Per, set.Bits = 64, 16
	for i, x := range all {
		for _, k := range []string{"kb", "kc", "kd", "ke"} {
			f := laid(t, set, 9, all...)
			alter(t, f, x, 64, 0)
			s := opened(t, f, set)
			// The first table that has the key tells a version of it.
			first := slices.IndexFunc(all, func(x tab) bool {
				return slices.ContainsFunc(x.entries, func(y api.Entry) bool { return y.Key == k })
			})
			if i != first {
				gets(t, s, k, 9, fmt.Sprint(all[first].entries[0].Seq))
				answers(t, "Stopped", s.Stopped(), api.OK)
				continue
			}
			getFails(t, s, k, 9, api.ErrCorrupt)
			stoppedBy(t, s, api.ErrCorrupt)
		}
	}
	// A delete is a version, too.
	f := laid(t, set, 9, tab{9, 0, entries("-ka@9 kb@9=9")}, deep)
	alter(t, f, deep, 64, 0)
	s := opened(t, f, set)
	lacks(t, s, "ka", 9)
	gets(t, s, "kb", 9, "9")
	getFails(t, s, "kc", 9, api.ErrCorrupt)
	// The memtable is asked ahead of all, and a later version that it has counts.
	for _, b := range []string{"ka=10", "-ka"} {
		f := laid(t, set, 9, all...)
		logged(t, f, 3, 9, b)
		for _, x := range all {
			alter(t, f, x, 64, 0)
		}
		s := opened(t, f, set)
		if b == "-ka" {
			lacks(t, s, "ka", 10)
		} else {
			gets(t, s, "ka", 10, "10")
		}
		getFails(t, s, "ke", 10, api.ErrCorrupt)
		stoppedBy(t, s, api.ErrCorrupt)
	}
}

// TestAVersionAboveIsNone: a table that has just later versions of a key doesn't end the search.
func TestAVersionAboveIsNone(t *testing.T) {
	_, s := begun(t, settings(2, 100))
	flushed(t, s, "a=1 b=1")
	one := taken(t, s)
	flushed(t, s, "a=2", "-b")
	flushed(t, s, "-a", "b=5")
	applied(t, s, "a=6", "-b")
	for range 3 {
		gets(t, s, "a", one, "1")
		gets(t, s, "b", one, "1")
		done(t, s.Compact(0), s.Compact(1))
		done(t, s.Flush())
	}
}

// fooled is a key from a list that a table's filter has, though the table doesn't.
func fooled(t testing.TB, l []api.Entry, bits int, beginning string) string {
	t.Helper()
	var keys []string
	for _, x := range l {
		keys = append(keys, x.Key)
	}
	filter, e := bloom.Of(keys, bits)
	done(t, e)
	for i := range 100000 {
		k := fmt.Sprint(beginning, i)
		if has, _ := bloom.Has(filter, k); has && !slices.Contains(keys, k) {
			return k
		}
	}
	t.Fatalf("the filter has no other key")
	return ""
}

// TestGetReadsTheTableWhoseRangeHasTheKey: of a level from 1 on no other one is asked, whatever its filter says; of Level 0 all are.
func TestGetReadsTheTableWhoseRangeHasTheKey(t *testing.T) {
	set := settings(2, 4)
	set.Bits = 1
	l := entries("m@1=x p@1=x")
	below, inside := fooled(t, l, 1, "a"), fooled(t, l, 1, "n")
	for level := range 7 {
		x := tab{5, level, l}
		for _, k := range []string{below, inside, "m", "p"} {
			f := laid(t, set, 1, x)
			alter(t, f, x, 2, 0)
			s := opened(t, f, set)
			if k == below && level > 0 {
				lacks(t, s, k, 1)
				continue
			}
			getFails(t, s, k, 1, api.ErrCorrupt)
			stoppedBy(t, s, api.ErrCorrupt)
		}
		// A key that the filter doesn't have costs no read.
		f := laid(t, set, 1, x)
		alter(t, f, x, 2, 0)
		s := opened(t, f, set)
		for i := range 50 {
			k := fmt.Sprint("n", i)
			filter, _ := bloom.Of([]string{"m", "p"}, 1)
			if has, _ := bloom.Has(filter, k); !has {
				lacks(t, s, k, 1)
			}
		}
	}
	// Between the tables of a level, and at the ends of their ranges.
	f := laid(t, usual(), 1, tab{1, 2, entries("b@1=1 d@1=2")}, tab{2, 2, entries("f@1=3")}, tab{3, 2, entries("h@1=4 k@1=5")})
	s := opened(t, f, usual())
	for _, k := range []string{"a", "b\x00", "c", "e", "f\x00", "g", "i", "l"} {
		lacks(t, s, k, 1)
	}
	for k, v := range map[string]string{"b": "1", "d": "2", "f": "3", "h": "4", "k": "5"} {
		gets(t, s, k, 1, v)
	}
}

// TestGetReadsOneBlockOfATable: the others may be altered.
func TestGetReadsOneBlockOfATable(t *testing.T) {
	l := entries("a@1=1 b@2=2 b@1=1 c@1=1 d@3=3 e@1=1 f@1=1")
	for n := range 4 {
		x := tab{1, 1, l}
		f := laid(t, usual(), 3, x)
		alter(t, f, x, 2, n)
		for i, y := range l {
			if i == 2 {
				continue // an earlier version: it can't be asked for
			}
			s := opened(t, f, usual())
			if i/2 == n {
				getFails(t, s, y.Key, 3, api.ErrCorrupt)
				stoppedBy(t, s, api.ErrCorrupt)
			} else {
				gets(t, s, y.Key, 3, y.Value)
			}
		}
	}
}

// TestErrorsOfGetInTheirOrder: what is stale is not read (rule 1).
func TestErrorsOfGetInTheirOrder(t *testing.T) {
	x := tab{1, 0, entries("a@1=x b@2=y")}
	f := laid(t, usual(), 2, x)
	alter(t, f, x, 2, 0)
	s := opened(t, f, usual())
	for _, seq := range []int{-1, 0, 1, 3} {
		getFails(t, s, "a", seq, api.ErrStale)
		scanFails(t, s, "", "", seq, -1, api.ErrStale)
	}
	scanFails(t, s, "", "", 2, -1, api.ErrArg)
	answers(t, "Stopped", s.Stopped(), api.OK)
	getFails(t, s, "a", 2, api.ErrCorrupt)
	for _, seq := range []int{-1, 0, 1, 2, 3} {
		getFails(t, s, "a", seq, api.ErrCorrupt)
		scanFails(t, s, "", "", seq, -1, api.ErrCorrupt)
		getFails(t, nil, "a", seq, api.ErrNil)
		scanFails(t, nil, "", "", seq, -1, api.ErrNil)
	}
}
