package wal

import (
	"math"
	"slices"
	"testing"

	"stagepost/api"
	"stagepost/vfs"
)

// These are the tests of P5.2.

func TestOpenOverNoSegment(t *testing.T) {
	for _, first := range []int{1, 2, 7, 999998, 999999} {
		for _, seq := range []int{0, 1, 2, 77, 1<<30 - 1, 1 << 30} {
			f := fresh(t, 0)
			tells(t, f, first, seq, nil, seq, first)
			segmentsAre(t, f, first)
			settled(t, f)
			if f.Steps() != 2 {
				t.Errorf("Open did %d raw steps", f.Steps())
			}
			done(t, f.Crash(0, 0))
			segmentsAre(t, f, first)
			reads(t, f, named(first), nil)
		}
	}
}

func TestOpenOutOfItsBounds(t *testing.T) {
	f := laid(t, 1, frames(simples(1, 3)...))
	for _, first := range []int{0, -1, math.MinInt, 1000000, 1 << 40, math.MaxInt} {
		for _, seq := range []int{0, 1, 3, 1 << 30} {
			refuses(t, f, first, seq, api.ErrArg)
		}
	}
	for _, seq := range []int{-1, math.MinInt, 1<<30 + 1, 1 << 40, math.MaxInt} {
		for _, first := range []int{0, 1, 2, 999999, 1000000} {
			refuses(t, f, first, seq, api.ErrArg)
		}
	}
}

func TestOpenOverSegmentsWithoutRecords(t *testing.T) {
	for _, seq := range []int{0, 9, 1 << 30} {
		for n := range 4 {
			for _, first := range []int{1, 5, 999990} {
				f := laid(t, first, make([][]byte, n)...)
				tells(t, f, first, seq, nil, seq, first+n)
			}
		}
	}
}

func TestOpenOverOneSegment(t *testing.T) {
	all := simples(1, 5)
	for seq := range 6 {
		f := laid(t, 1, frames(all...))
		steps := f.Steps()
		tells(t, f, 1, seq, all[seq:], 5, 2)
		segmentsAre(t, f, 1, 2)
		settled(t, f)
		if f.Steps() != steps+2 {
			t.Errorf("Open did %d raw steps", f.Steps()-steps)
		}
		reads(t, f, named(1), frames(all...))
		reads(t, f, named(2), nil)
	}
}

func TestOpenTellsBatchesWhole(t *testing.T) {
	var all []api.Batch
	for i, b := range good() {
		b.Seq = i + 10
		all = append(all, b)
	}
	f := laid(t, 3, frames(all[:4]...), frames(all[4:5]...), nil, frames(all[5:]...))
	tells(t, f, 3, 9, all, all[len(all)-1].Seq, 7)
	f = laid(t, 3, frames(all[:4]...), frames(all[4:5]...), nil, frames(all[5:]...))
	tells(t, f, 3, 12, all[3:], all[len(all)-1].Seq, 7)
}

// TestOpenOverSomeSegments parts batches into segments in all ways.
func TestOpenOverSomeSegments(t *testing.T) {
	all := simples(1, 4)
	for a := range 5 {
		for b := a; b < 5; b++ {
			for seq := range 5 {
				f := laid(t, 2, frames(all[:a]...), frames(all[a:b]...), frames(all[b:]...))
				tells(t, f, 2, seq, all[seq:], 4, 5)
			}
		}
	}
}

// TestOpenReadsFromFirstOn: what stands ahead of first, and what stands behind a number that is not held, is not read, whatever it is.
func TestOpenReadsFromFirstOn(t *testing.T) {
	f := fresh(t, 1<<20)
	holding(t, f, named(1), []byte("these are no frames"))
	holding(t, f, named(2), frames(simples(100, 105)...))
	holding(t, f, named(3), frames(simples(1, 2)...))
	holding(t, f, named(4), frames(simples(3, 4)...))
	holding(t, f, named(6), []byte("these are no frames"))
	tells(t, f, 3, 0, simples(1, 4), 4, 5)
	segmentsAre(t, f, 1, 2, 3, 4, 5, 6)
	// Now that 5 is held, 6 is the next one.
	refuses(t, f, 3, 0, api.ErrCorrupt)
	refuses(t, f, 1, 0, api.ErrCorrupt)
}

// TestOpenKnowsSegmentsByTheirNames: names that are nearly those of segments are no segments.
func TestOpenKnowsSegmentsByTheirNames(t *testing.T) {
	for _, name := range []string{"wal-1", "wal-00001", "wal-0000001", "wal-000000", "wal-+00001", "wal--00001", "wal-00000a", "wal-0x0001", "wal-00_001", "wal", "wal-", "Wal-000001", "000001", "wal-wal-000001", "sst-000001", "wal-000001.new", "wal-1000000"} {
		f := fresh(t, 1000)
		holding(t, f, name, []byte("these are no frames"))
		tells(t, f, 1, 3, nil, 3, 1)
		want := []string{name, named(1)}
		slices.Sort(want)
		names(t, f, want...)
	}
}

func TestOpenPassesOverATornEnd(t *testing.T) {
	first, second, third := frames(simples(1, 3)...), frames(simples(4, 5)...), frames(simples(6, 6)...)
	torn := frames(batch(4, put("k", long(200)), del("l")))
	for cut := range torn {
		part := torn[:cut]
		f := laid(t, 1, slices.Concat(first, part))
		tells(t, f, 1, 0, simples(1, 3), 3, 2)
		// In the midst of others, twice, and at the end of one that has nothing else.
		f = laid(t, 1, slices.Concat(first, part), part, slices.Concat(second, part), third)
		tells(t, f, 1, 0, simples(1, 6), 6, 5)
		f = laid(t, 1, slices.Concat(first, part), part, slices.Concat(second, part), third)
		tells(t, f, 1, 4, simples(5, 6), 6, 5)
	}
}

// TestOpenLeavesATornEnd: the segment that is torn is not written to any more.
func TestOpenLeavesATornEnd(t *testing.T) {
	b := slices.Concat(frames(simples(1, 2)...), frames(simple(3))[:7])
	f := laid(t, 1, b)
	w := tells(t, f, 1, 0, simples(1, 2), 2, 2)
	fill(t, w, 3, 4)
	reads(t, f, named(1), b)
	reads(t, f, named(2), frames(simples(3, 4)...))
	tells(t, f, 1, 0, simples(1, 4), 4, 3)
}

func TestOpenOverAGapWithinASegment(t *testing.T) {
	for _, seqs := range [][]int{{1, 3}, {1, 1}, {2, 1}, {1, 2, 4}, {1, 2, 2}, {1, 2, 1}, {1, 3, 2}, {1, 2, 3, 5, 6}, {3, 2, 1}, {1, 1 << 30}, {1 << 30, 1}} {
		var l []api.Batch
		for _, seq := range seqs {
			l = append(l, simple(seq))
		}
		for seq := range 7 {
			refuses(t, laid(t, 1, frames(l...)), 1, seq, api.ErrCorrupt)
		}
		// And so between two segments, and with one between that has nothing.
		for cut := range l {
			refuses(t, laid(t, 1, frames(l[:cut]...), frames(l[cut:]...)), 1, 0, api.ErrCorrupt)
			refuses(t, laid(t, 1, frames(l[:cut]...), nil, nil, frames(l[cut:]...)), 1, 1, api.ErrCorrupt)
			torn := frames(simple(seqs[cut]))[:15]
			refuses(t, laid(t, 1, append(frames(l[:cut]...), torn...), frames(l[cut:]...)), 1, 1, api.ErrCorrupt)
		}
	}
}

func TestOpenBetweenTheFirstSeqAndTheLast(t *testing.T) {
	for seq := range 12 {
		f := laid(t, 1, frames(simples(4, 6)...), frames(simples(7, 8)...))
		if seq < 3 || seq > 8 {
			refuses(t, f, 1, seq, api.ErrCorrupt)
			continue
		}
		tells(t, f, 1, seq, simples(seq+1, 8), 8, 3)
	}
}

func TestOpenAtTheGreatestSeqs(t *testing.T) {
	const last = 1 << 30
	two := frames(simples(last-1, last)...)
	tells(t, laid(t, 1, two), 1, last, nil, last, 2)
	tells(t, laid(t, 1, two), 1, last-1, simples(last, last), last, 2)
	tells(t, laid(t, 1, two), 1, last-2, simples(last-1, last), last, 2)
	refuses(t, laid(t, 1, two), 1, last-3, api.ErrCorrupt)
	refuses(t, laid(t, 1, frames(simple(last-1))), 1, last, api.ErrCorrupt)
	refuses(t, laid(t, 1, frames(simple(last))), 1, 0, api.ErrCorrupt)
	// No batch has the Seq behind it.
	refuses(t, laid(t, 1, frames(simples(last, last+1)...)), 1, last, api.ErrCorrupt)
	refuses(t, laid(t, 1, frames(simple(0), simple(1))), 1, 0, api.ErrCorrupt)
}

func TestOpenWhereNoNumberIsLeft(t *testing.T) {
	f := laid(t, 999999, nil)
	refuses(t, f, 999999, 0, api.ErrLong)
	tells(t, f, 999998, 0, nil, 0, 999998)
	refuses(t, f, 999998, 0, api.ErrLong)
	f = laid(t, 999997, frames(simples(1, 2)...), frames(simples(3, 4)...), frames(simples(5, 6)...))
	refuses(t, f, 999997, 0, api.ErrLong)
	refuses(t, f, 999998, 2, api.ErrLong)
	refuses(t, f, 999999, 6, api.ErrLong)
	// What the segments hold is looked at ahead of that.
	refuses(t, f, 999997, 7, api.ErrCorrupt)
	refuses(t, f, 999998, 1, api.ErrCorrupt)
	refuses(t, laid(t, 999999, []byte("these are no frames")), 999999, 0, api.ErrCorrupt)
	// A file that would be the next one's, if there were one, is none.
	f = laid(t, 999999, nil)
	holding(t, f, "wal-1000000", nil)
	refuses(t, f, 999999, 0, api.ErrLong)
}

// faults are segments that are altered, or that no wal wrote, each with batches ahead that are good.
func faults() map[string][]byte {
	one, two := frames(simple(1)), frames(simple(2))
	turned := func(at int) []byte {
		b := slices.Clone(two)
		b[at] ^= 4
		return slices.Concat(one, b)
	}
	record := func(b []byte) []byte { return slices.Concat(one, framed(b)) }
	return map[string][]byte{
		"bytes that are no frames":      []byte("these are no frames"),
		"bytes behind a frame":          append(slices.Clone(one), "no frame"...),
		"noughts":                       make([]byte, 100),
		"a head that is turned":         turned(0),
		"a head's sum that is turned":   turned(4),
		"a record that is turned":       turned(9),
		"a sum that is turned":          turned(len(two) - 1),
		"a record of none":              record(nil),
		"a record that is no batch":     record([]byte("no batch")),
		"a record and a byte":           record(append(plain(simple(2)), 0)),
		"a record less a byte":          record(plain(simple(2))[:5]),
		"a record of two batches":       record(append(plain(simple(2)), plain(simple(3))...)),
		"a record with a long number":   record([]byte{130, 0, 1, 0, 1, 'a', 0}),
		"a record with another mark":    record([]byte{2, 1, 2, 1, 'a', 0}),
		"a batch of no writes":          record(plain(batch(2))),
		"a batch of 65 writes":          record(plain(batch(2, many(65)...))),
		"a batch with a key twice":      record(plain(batch(2, put("a", ""), del("a")))),
		"a batch with an empty key":     record(plain(batch(2, del("")))),
		"a batch with too long a key":   record(plain(batch(2, del(long(513))))),
		"a batch with too long a value": record(plain(batch(2, put("a", long(4097))))),
		"a batch with the Seq 0":        framed(plain(simple(0))),
		"a frame in a frame":            record(frames(simple(2))),
	}
}

func TestOpenOverFaults(t *testing.T) {
	for what, b := range faults() {
		t.Run(what, func(t *testing.T) {
			for _, seq := range []int{0, 1, 2} {
				refuses(t, laid(t, 1, b), 1, seq, api.ErrCorrupt)
				refuses(t, laid(t, 1, nil, nil, b), 1, seq, api.ErrCorrupt)
				refuses(t, laid(t, 1, b, frames(simple(3))), 1, seq, api.ErrCorrupt)
				refuses(t, laid(t, 1, b, frames(simple(2))), 1, seq, api.ErrCorrupt)
			}
			// What is not read harms nobody.
			tells(t, laid(t, 1, b), 2, 0, nil, 0, 2)
		})
	}
}

// TestOpenOverATornFault: a frame that is too short for what its head tells is torn, though what is there of it is no record.
func TestOpenOverATornFault(t *testing.T) {
	b := framed([]byte("this is no batch"))
	tells(t, laid(t, 1, append(frames(simple(1)), b[:len(b)-1]...)), 1, 0, simples(1, 1), 1, 2)
	refuses(t, laid(t, 1, append(frames(simple(1)), b...)), 1, 0, api.ErrCorrupt)
}

func TestOpenOverNoFileSystem(t *testing.T) {
	var none vfs.FS
	for _, f := range []*vfs.FS{nil, {}, &none} {
		for _, first := range []int{1, 0, -1, 1000000} {
			for _, seq := range []int{0, -1, 1<<30 + 1} {
				if w, l, e := Open(f, first, seq); w != nil || l != nil || e != api.ErrNil {
					t.Errorf("Open(%d, %d): %v, %v, %v", first, seq, w, l, e)
				}
			}
		}
	}
}

// off turns a file system off.
func off(t testing.TB, f *vfs.FS) {
	t.Helper()
	done(t, f.Fuse(0))
	answers(t, "SyncNames", f.SyncNames(), api.ErrOff)
}

func TestOpenOverOneThatIsOff(t *testing.T) {
	for what, b := range faults() {
		f := laid(t, 1, b)
		off(t, f)
		for _, first := range []int{1, 2, 0, -1, 999999, 1000000} {
			for _, seq := range []int{0, 5, -1, 1<<30 + 1} {
				refuses(t, f, first, seq, api.ErrOff)
			}
		}
		done(t, f.Crash(0, 0))
		if names := f.Names(); len(names) != 1 {
			t.Errorf("%s: %q", what, names)
		}
	}
}

// TestOpenWithAFuse lets it go off at each of Open's raw steps.
func TestOpenWithAFuse(t *testing.T) {
	for n := range 3 {
		for k := range 3 {
			f := laid(t, 1, frames(simples(1, 2)...))
			steps := f.Steps()
			done(t, f.Fuse(n))
			w, l, e := Open(f, 1, 0)
			if n == 2 {
				if w == nil || len(l) != 2 || e != api.OK || !f.On() {
					t.Fatalf("Fuse(2): %v, %v, %v", w, l, e)
				}
				continue
			}
			if w != nil || l != nil || e != api.ErrOff || f.On() || f.Steps() != steps+n {
				t.Errorf("Fuse(%d): %v, %v, %v, on %v, %d steps", n, w, l, e, f.On(), f.Steps()-steps)
			}
			done(t, f.Crash(k, 0))
			next := 2 + min(n, k) // the segment that was begun is there, and is passed over
			tells(t, f, 1, 0, simples(1, 2), 2, next)
		}
	}
}

// TestRefusedOpenBurnsNoFuse: what is refused ahead of the raw steps does none.
func TestRefusedOpenBurnsNoFuse(t *testing.T) {
	for _, x := range []struct {
		f          *vfs.FS
		first, seq int
		want       api.Errno
	}{
		{laid(t, 1, nil), 0, 0, api.ErrArg},
		{laid(t, 1, nil), 1, -1, api.ErrArg},
		{laid(t, 1, frames(simple(2))), 1, 0, api.ErrCorrupt},
		{laid(t, 1, []byte("these are no frames")), 1, 0, api.ErrCorrupt},
		{laid(t, 999999, nil), 999999, 0, api.ErrLong},
	} {
		done(t, x.f.Fuse(0))
		refuses(t, x.f, x.first, x.seq, x.want)
		if !x.f.On() {
			t.Errorf("Open(%d, %d) turned it off", x.first, x.seq)
		}
	}
}

// TestOpenReadsWhatIsHeld: what was written and is not durable yet is there, too.
func TestOpenReadsWhatIsHeld(t *testing.T) {
	f := fresh(t, 1000)
	done(t, f.Create(named(1)), f.Append(named(1), frames(simples(1, 2)...)))
	tells(t, f, 1, 0, simples(1, 2), 2, 2)
	// A name that is moved or removed is not held.
	f = laid(t, 1, frames(simple(1)), frames(simple(2)))
	done(t, f.Remove(named(2)))
	tells(t, f, 1, 0, simples(1, 1), 1, 2)
	f = laid(t, 1, frames(simple(1)), frames(simple(2)))
	done(t, f.Rename(named(2), "other"))
	tells(t, f, 1, 0, simples(1, 1), 1, 2)
}

// TestOpenHasRoomWhereNoneIsLeft: a segment without bytes needs none.
func TestOpenHasRoomWhereNoneIsLeft(t *testing.T) {
	f := fresh(t, 10)
	holding(t, f, "full", make([]byte, 10))
	tells(t, f, 1, 0, nil, 0, 1)
}

func TestOpenManyTimes(t *testing.T) {
	f := fresh(t, 1<<20)
	for i := range 100 {
		w := tells(t, f, 1, 0, simples(1, i), i, i+1)
		fill(t, w, i+1, i+1)
	}
	var want []int
	for i := range 100 {
		want = append(want, i+1)
		reads(t, f, named(i+1), frames(simple(i+1)))
	}
	segmentsAre(t, f, want...)
	settled(t, f)
}
