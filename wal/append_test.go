package wal

import (
	"math"
	"testing"

	"stagepost/api"
	"stagepost/vfs"
)

// These are the tests of P5.3 and P5.4, of Append.

// rejects says that Append answers this error, and that nothing changed by it.
func rejects(t testing.TB, f *vfs.FS, w *Wal, l []api.Write, want api.Errno) {
	t.Helper()
	was, seq, segment := look(f), w.Seq(), w.Segment()
	if got, e := w.Append(l); got != 0 || e != want {
		t.Errorf("Append of %d writes: %d, %d; not %d", len(l), got, e, want)
	}
	if now := look(f); now != was {
		t.Errorf("Append was refused, and changed\n%s\ninto\n%s", was, now)
	}
	is(t, w, seq, segment)
}

func TestAppendWritesOneFrame(t *testing.T) {
	for _, b := range good() {
		b.Seq = 8
		f := fresh(t, 1<<20)
		w, _ := opened(t, f, 3, 7)
		appends(t, w, 8, b.Writes...)
		is(t, w, 8, 3)
		segmentsAre(t, f, 3)
		reads(t, f, named(3), frames(b))
		if d, ok := f.Durable(named(3)); !ok || len(d) != len(frames(b)) {
			t.Errorf("%d bytes are durable, %v", len(d), ok)
		}
		settled(t, f)
		// Raw writes of 64 bytes, and a sync, behind the two steps of Open.
		if want := 2 + (len(frames(b))+63)/64 + 1; f.Steps() != want {
			t.Errorf("%d raw steps, not %d", f.Steps(), want)
		}
		done(t, f.Crash(0, 0))
		tells(t, f, 3, 7, []api.Batch{b}, 8, 4)
	}
}

func TestAppendGoesOn(t *testing.T) {
	for _, seq := range []int{0, 1, 41, 1<<30 - 10} {
		f := fresh(t, 1<<20)
		w, _ := opened(t, f, 1, seq)
		fill(t, w, seq+1, seq+10)
		is(t, w, seq+10, 1)
		reads(t, f, named(1), frames(simples(seq+1, seq+10)...))
		settled(t, f)
		tells(t, f, 1, seq, simples(seq+1, seq+10), seq+10, 2)
	}
}

func TestAppendBehindBatchesThatAreThere(t *testing.T) {
	f := laid(t, 1, frames(simples(1, 3)...), frames(simples(4, 5)...))
	w, _ := opened(t, f, 1, 4)
	fill(t, w, 6, 7)
	reads(t, f, named(1), frames(simples(1, 3)...))
	reads(t, f, named(2), frames(simples(4, 5)...))
	reads(t, f, named(3), frames(simples(6, 7)...))
	tells(t, f, 1, 0, simples(1, 7), 7, 4)
}

func TestAppendOfListsThatMayNotBe(t *testing.T) {
	f := fresh(t, 1<<20)
	w, _ := opened(t, f, 1, 0)
	fill(t, w, 1, 2)
	for _, l := range [][]api.Write{
		nil, list(), many(65), many(1000),
		list(put("", "")), list(del("")), list(put(long(513), "")), list(put("a", long(4097))), {{Key: "a", Value: "1", Del: true}},
		list(put("a", ""), put("a", "")), append(many(5), del("key 3")), append(many(5), put("", "")),
	} {
		rejects(t, f, w, l, Check(l))
	}
	rejects(t, f, w, nil, api.ErrArg)
	rejects(t, f, w, many(65), api.ErrLong)
	rejects(t, f, w, list(put("a", ""), put("a", "")), api.ErrThere)
	fill(t, w, 3, 4)
	tells(t, f, 1, 0, simples(1, 4), 4, 2)
}

func TestAppendAtTheLastSeq(t *testing.T) {
	const last = 1 << 30
	f := fresh(t, 1<<20)
	w, _ := opened(t, f, 1, last)
	rejects(t, f, w, many(1), api.ErrLong)
	w, _ = opened(t, f, 2, last-2)
	fill(t, w, last-1, last)
	rejects(t, f, w, many(1), api.ErrLong)
	rejects(t, f, w, many(64), api.ErrLong)
	// Check's errors come first.
	rejects(t, f, w, nil, api.ErrArg)
	rejects(t, f, w, list(put("a", ""), put("a", "")), api.ErrThere)
	done(t, w.Roll(), w.Drop(2))
	rejects(t, f, w, many(1), api.ErrLong)
	tells(t, f, 2, last-2, simples(last-1, last), last, 4)
}

func TestAppendWhereThereIsNoRoom(t *testing.T) {
	b := frames(simple(1))
	for room := range 2 * len(b) {
		f := fresh(t, room)
		w, _ := opened(t, f, 1, 0)
		if room < len(b) {
			rejects(t, f, w, simple(1).Writes, api.ErrFull)
			// Behind it all is as before: what needs no room goes on.
			done(t, w.Roll())
			rejects(t, f, w, simple(1).Writes, api.ErrFull)
			continue
		}
		appends(t, w, 1, simple(1).Writes...)
		rejects(t, f, w, simple(2).Writes, api.ErrFull)
		tells(t, f, 1, 0, simples(1, 1), 1, 2)
	}
	f := fresh(t, 2*len(b))
	w, _ := opened(t, f, 1, 0)
	fill(t, w, 1, 2)
	if f.Left() != 0 {
		t.Errorf("%d bytes are left", f.Left())
	}
	rejects(t, f, w, simple(3).Writes, api.ErrFull)
}

func TestAppendOfTheLargestBatchIntoJustItsRoom(t *testing.T) {
	b := largest()
	size := len(frames(b))
	for room, want := range map[int]api.Errno{size - 1: api.ErrFull, size: api.OK, size + 1: api.OK} {
		f := fresh(t, room)
		w, _ := opened(t, f, 1, 1<<30-1)
		if _, e := w.Append(b.Writes); e != want {
			t.Errorf("a room of %d for %d bytes: %v, not %v", room, size, e, want)
		}
	}
}

// TestRoomComesLast has several errors of Append (rule 1).
func TestRoomComesLast(t *testing.T) {
	f := fresh(t, 0)
	w, _ := opened(t, f, 1, 1<<30)
	rejects(t, f, w, nil, api.ErrArg)
	rejects(t, f, w, many(65), api.ErrLong)
	rejects(t, f, w, list(put("", "")), api.ErrArg)
	rejects(t, f, w, list(del("a"), del("a")), api.ErrThere)
	rejects(t, f, w, many(1), api.ErrLong)
	w, _ = opened(t, f, 3, 0)
	rejects(t, f, w, list(del("a"), del("a")), api.ErrThere)
	rejects(t, f, w, many(1), api.ErrFull)
}

// TestRoomIsMadeAnew: an ErrFull passes, as soon as there is room.
func TestRoomIsMadeAnew(t *testing.T) {
	size := len(frames(simple(1)))
	f := fresh(t, 2*size)
	holding(t, f, "other", make([]byte, size))
	w, _ := opened(t, f, 1, 0)
	fill(t, w, 1, 1)
	rejects(t, f, w, simple(2).Writes, api.ErrFull)
	done(t, f.Remove("other"))
	fill(t, w, 2, 2)
	rejects(t, f, w, simple(3).Writes, api.ErrFull)
	done(t, w.Roll(), w.Drop(2))
	fill(t, w, 3, 4)
	tells(t, f, 2, 2, simples(3, 4), 4, 3)
}

// overfull is a file system of 40 bytes to which a Crash brought back what was removed, so that 40 less than nothing are left.
func overfull(t testing.TB) *vfs.FS {
	t.Helper()
	f := fresh(t, 40)
	holding(t, f, "back", make([]byte, 40))
	done(t, f.Create("more"), f.Remove("back"), f.Append("more", make([]byte, 40)), f.Sync("more"), f.Crash(1, 0))
	if f.Left() != -40 {
		t.Fatalf("%d are left", f.Left())
	}
	return f
}

func TestAppendWhereLessThanNothingIsLeft(t *testing.T) {
	f := overfull(t)
	w := tells(t, f, 1, 0, nil, 0, 1)
	rejects(t, f, w, many(1), api.ErrFull)
	done(t, w.Roll(), w.Drop(2), f.Remove("back"), f.Remove("more"))
	appends(t, w, 1, many(1)...)
}

func TestAppendWithAFuse(t *testing.T) {
	b := batch(3, put("k", long(300)), del("l"))
	steps := (len(frames(b))+63)/64 + 1
	for n := range steps + 1 {
		f := fresh(t, 1000)
		w, _ := opened(t, f, 1, 0)
		fill(t, w, 1, 2)
		was := f.Steps()
		done(t, f.Fuse(n))
		got, e := w.Append(b.Writes)
		if n == steps {
			if got != 3 || e != api.OK || !f.On() {
				t.Errorf("Fuse(%d): %d, %v", n, got, e)
			}
			continue
		}
		if got != 0 || e != api.ErrOff || f.On() || f.Steps() != was+n || f.Pending() != n {
			t.Errorf("Fuse(%d): %d, %v, on %v, %d steps, %d pending", n, got, e, f.On(), f.Steps()-was, f.Pending())
		}
		is(t, w, 2, 1)
	}
}

// TestWhatIsRefusedBurnsNoFuse: refused, Append, Roll and Drop do no raw step.
func TestWhatIsRefusedBurnsNoFuse(t *testing.T) {
	f := fresh(t, 10)
	w, _ := opened(t, f, 999999, 1<<30-1)
	done(t, f.Fuse(0))
	rejects(t, f, w, nil, api.ErrArg)
	rejects(t, f, w, many(1), api.ErrFull)
	answers(t, "Roll", w.Roll(), api.ErrLong)
	answers(t, "Drop", w.Drop(1000000), api.ErrArg)
	answers(t, "Drop of nothing", w.Drop(999999), api.OK)
	if !f.On() {
		t.Errorf("it is off")
	}
}

// TestAppendWhereTheSegmentIsGone: somebody else removed the file. What the file system says is passed on, and nothing changes.
func TestAppendWhereTheSegmentIsGone(t *testing.T) {
	f := fresh(t, 60)
	w, _ := opened(t, f, 1, 0)
	fill(t, w, 1, 1)
	done(t, f.Remove(named(1)), f.SyncNames())
	rejects(t, f, w, many(1), api.ErrMissing)
	rejects(t, f, w, list(put("k", long(60))), api.ErrFull)
	done(t, w.Roll())
	fill(t, w, 2, 2)
}

func TestSeqAndSegmentOfNone(t *testing.T) {
	var none Wal
	for _, w := range []*Wal{nil, {}, &none, new(Wal)} {
		is(t, w, 0, 0)
	}
}

func TestNoWal(t *testing.T) {
	var none Wal
	for _, w := range []*Wal{nil, {}, &none, new(Wal)} {
		for _, l := range [][]api.Write{nil, many(1), many(65), list(put("", ""))} {
			if got, e := w.Append(l); got != 0 || e != api.ErrNil {
				t.Errorf("Append: %d, %v", got, e)
			}
		}
		answers(t, "Roll", w.Roll(), api.ErrNil)
		for _, below := range []int{0, 1, -1, math.MaxInt, math.MinInt} {
			answers(t, "Drop", w.Drop(below), api.ErrNil)
		}
		is(t, w, 0, 0)
	}
}
