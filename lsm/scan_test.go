package lsm

import (
	"math"
	"slices"
	"testing"

	"stagepost/api"
)

// These are the tests of Scan (P11.3).

func TestScanOfSpans(t *testing.T) {
	f, s := begun(t, settings(9, 2))
	flushed(t, s, "a=0 b=0 d=0 f=0")
	compacted(t, s, 0)
	flushed(t, s, "b=1 c=1", "-d")
	applied(t, s, "d=2 e=2 -a", "f=3")
	for range 2 {
		seq := s.Seq()
		for _, c := range []struct{ from, to, want string }{
			{"", "", "b=1 c=1 d=2 e=2 f=3"},
			{"b", "", "b=1 c=1 d=2 e=2 f=3"},
			{"b\x00", "", "c=1 d=2 e=2 f=3"},
			{"", "e", "b=1 c=1 d=2"},
			{"", "e\x00", "b=1 c=1 d=2 e=2"},
			{"b", "d", "b=1 c=1"},
			{"a", "b", ""},
			{"a", "b\x00", "b=1"},
			{"c", "c", ""},
			{"c", "c\x00", "c=1"},
			{"e", "b", ""},
			{"f", "", "f=3"},
			{"f\x00", "", ""},
			{"z", "", ""},
			{"z", "a", ""},
			{"", "a", ""},
			{"", "\x00", ""},
			{"", "z", "b=1 c=1 d=2 e=2 f=3"},
			{long(600), long(700), ""},
			{"", long(600), "b=1 c=1 d=2 e=2 f=3"},
		} {
			scans(t, s, c.from, c.to, seq, 99, c.want)
		}
		s = again(t, f, settings(9, 2))
	}
}

func TestScanOfAtMost(t *testing.T) {
	_, s := begun(t, settings(9, 2))
	flushed(t, s, "a=0 b=0 c=0 d=0 e=0")
	applied(t, s, "-a -c f=1")
	for most, want := range []string{"", "b=0", "b=0 d=0", "b=0 d=0 e=0", "b=0 d=0 e=0 f=1", "b=0 d=0 e=0 f=1"} {
		scans(t, s, "", "", 2, most, want)
	}
	for _, most := range []int{1000, 1 << 31, math.MaxInt} {
		scans(t, s, "", "", 2, most, "b=0 d=0 e=0 f=1")
	}
	// Deletes don't count.
	scans(t, s, "a", "e", 2, 1, "b=0")
	scans(t, s, "b\x00", "", 2, 1, "d=0")
	for _, most := range []int{-1, -2, math.MinInt} {
		scanFails(t, s, "", "", 2, most, api.ErrArg)
		scanFails(t, s, "b", "a", 2, most, api.ErrArg)
		scanFails(t, s, "", "", 3, most, api.ErrStale)
	}
	answers(t, "Stopped", s.Stopped(), api.OK)
}

// TestScanAtEachSeq: with all Seqs held, wherever the entries are.
func TestScanAtEachSeq(t *testing.T) {
	_, s := begun(t, settings(1, 3, 1, 2))
	want := []string{"", "a=1 b=1", "b=1 c=2", "a=3 c=2", "a=3 b=4 c=4", "", "b=6"}
	check := func() {
		t.Helper()
		for seq := range s.Seq() + 1 {
			scans(t, s, "", "", seq, 9, want[seq])
		}
	}
	taken(t, s)
	for i, b := range []string{"a=1 b=1", "-a c=2", "a=3 -b", "b=4 c=4", "-a -b -c", "b=6"} {
		applied(t, s, b)
		taken(t, s)
		check()
		if i%2 == 1 {
			done(t, s.Flush())
			check()
			compacted(t, s, 0)
			check()
		}
	}
	compacted(t, s, 1, 2, 3, 4, 5)
	check()
	// A state that nobody holds any more can't be asked for, those beside it can.
	answers(t, "Release", s.Release(3), api.OK)
	compacted(t, s, 5)
	scanFails(t, s, "", "", 3, 9, api.ErrStale)
	scans(t, s, "", "", 2, 9, want[2])
	scans(t, s, "", "", 4, 9, want[4])
}

// TestScanReadsTheTablesThatMeetTheSpan: those are read by sst.Scan, whatever is in them, and no others.
func TestScanReadsTheTablesThatMeetTheSpan(t *testing.T) {
	// Just the first and the third block are altered: where the span meets these, it is found.
	x := tab{4, 2, entries("c@1=1 d@1=1 e@1=1 f@1=1 g@1=1 h@1=1")}
	y := tab{5, 0, entries("a@2=2 z@2=2")}
	for _, c := range []struct {
		from, to string
		want     api.Errno
	}{
		{"", "", api.ErrCorrupt},
		{"", "c", api.OK}, // First is not below To
		{"", "c\x00", api.ErrCorrupt},
		{"h", "", api.ErrCorrupt}, // Last is not below From
		{"h\x00", "", api.OK},
		{"d\x00", "f", api.OK}, // the second block alone
		{"e", "f", api.OK},
		{"e", "f\x00", api.ErrCorrupt}, // no block's last key is known to be above To, but the third one's
		{"d", "e", api.ErrCorrupt},
		{"g", "g", api.ErrCorrupt},
		{"e", "e", api.OK},
		{"a", "b", api.OK},
		{"i", "z", api.OK},
		// Where From is above To nothing is told, but what is read is read.
		{"g", "d", api.ErrCorrupt},
		{"e", "d", api.OK},
		{"g", "c", api.OK},
		{"i", "d", api.OK},
	} {
		for _, most := range []int{0, 1, 9} {
			for level := range 7 {
				x.level = level
				f := laid(t, usual(), 2, x, y)
				alter(t, f, x, 2, 0)
				alter(t, f, x, 2, 2)
				s := opened(t, f, usual())
				l, e := s.Scan(api.Span{From: c.from, To: c.to}, 2, most)
				if e != c.want || len(l) > most || e != api.OK && l != nil {
					t.Errorf("Scan({%q, %q}, 2, %d), on level %d: %v, %d; not %d", c.from, c.to, most, level, l, e, c.want)
				}
				if c.want == api.OK {
					answers(t, "Stopped", s.Stopped(), api.OK)
				} else {
					stoppedBy(t, s, api.ErrCorrupt)
				}
			}
		}
	}
}

// TestScanReadsWhatIsHidden: a table is read, though later versions of all its keys stand ahead.
func TestScanReadsWhatIsHidden(t *testing.T) {
	under := tab{1, 1, entries("a@1=1 b@1=1")}
	f := laid(t, usual(), 2, tab{2, 0, entries("a@2=2 -b@2")}, under)
	logged(t, f, 3, 2, "a=3 b=3")
	alter(t, f, under, 2, 0)
	s := opened(t, f, usual())
	gets(t, s, "a", 3, "3")
	gets(t, s, "b", 3, "3")
	scanFails(t, s, "", "", 3, 1, api.ErrCorrupt)
	stoppedBy(t, s, api.ErrCorrupt)
}

// TestScanTakesTheWordsOfATable: where its keys begin is not read out of it.
func TestScanTakesTheWordsOfATable(t *testing.T) {
	x := tab{1, 1, entries("a@1=1 m@1=1")}
	f := newFS(t, 1<<16)
	holding(t, f, named(1), x.bytes(t, usual()))
	written(t, f, api.Edit{Adds: metas(meta(1, 1, 2, "k", "m")), Log: 1, Seq: 1, Next: 2})
	s := opened(t, f, usual())
	scans(t, s, "", "k", 1, 9, "")
	scans(t, s, "", "k\x00", 1, 9, "a=1")
	lacks(t, s, "a", 1)
	gets(t, s, "m", 1, "1")
}

// TestTablesThatCannotBeMerged: no store writes the same version twice, or keys in disorder. That is found, and told as what it is.
func TestTablesThatCannotBeMerged(t *testing.T) {
	twice := []tab{{2, 0, entries("a@1=1 b@2=2")}, {1, 0, entries("a@1=1 c@2=2")}}
	f := laid(t, usual(), 2, twice...)
	s := opened(t, f, usual())
	gets(t, s, "a", 2, "1")
	scans(t, s, "b", "", 2, 9, "b=2 c=2")
	scanFails(t, s, "", "", 2, 9, api.ErrCorrupt)
	stoppedBy(t, s, api.ErrCorrupt)
	s = again(t, f, usual())
	answers(t, "Compact", s.Compact(0), api.ErrCorrupt)
	stoppedBy(t, s, api.ErrCorrupt)
	tables(t, again(t, f, usual()), twice[0].words(), twice[1].words())
}

// TestScanOfMuch: some thousand keys over all levels.
func TestScanOfMuch(t *testing.T) {
	_, s := begun(t, api.Settings{Heights: []int{4, 1, 2, 1, 3, 1, 2, 1}, Per: 16, Bits: 8, Top: 2, Most: 100})
	var p past
	for i := range 200 {
		var b []api.Write
		for j := range 20 {
			b = append(b, put(key((i*37+j*53)%2500), key(i), (i+j)%5 == 0))
		}
		if _, e := s.Apply(b); e != api.OK {
			t.Fatalf("Apply: %d", e)
		}
		p = append(p, b)
		if i%10 == 9 {
			done(t, s.Flush())
		}
		for s.Due() >= 0 {
			done(t, s.Compact(s.Due()))
		}
	}
	p.tellsAll(t, s, 200)
	if n := len(s.Tables()); n < 10 {
		t.Errorf("%d tables", n)
	}
	all, _ := s.Scan(api.Span{}, 200, 1<<30)
	if !slices.IsSortedFunc(all, func(a, b api.KV) int {
		if a.Key < b.Key {
			return -1
		}
		return 1
	}) {
		t.Errorf("the keys don't rise")
	}
}
