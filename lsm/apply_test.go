package lsm

import (
	"fmt"
	"slices"
	"strings"
	"testing"

	"stagepost/api"
	"stagepost/frame"
	"stagepost/wal"
)

// These are the tests of P11.2.

// framed is the frame of a batch in the log.
func framed(t testing.TB, seq int, l []api.Write) []byte {
	t.Helper()
	record, e := wal.Encode(api.Batch{Seq: seq, Writes: l})
	done(t, e)
	b, e := frame.Append(nil, record)
	done(t, e)
	return b
}

// TestApplyWritesOneFrame: to the log, and nowhere else; it is synced.
func TestApplyWritesOneFrame(t *testing.T) {
	f, s := begun(t, usual())
	var want []byte
	for i, b := range []string{"a=1", "-a", "a=2 b=" + long(300), "-zz c=", "b=" + long(4096)} {
		steps := f.Steps()
		applied(t, s, b)
		one := framed(t, i+1, writes(b))
		want = append(want, one...)
		if got, ok := f.Durable(segment(1)); !ok || !slices.Equal(got, want) {
			t.Errorf("%s: %d bytes, not %d", b, len(got), len(want))
		}
		if raws := (len(one) + 63) / 64; f.Steps() != steps+raws+1 || f.Pending() != 0 {
			t.Errorf("%s: %d raw steps, not %d; %d pending", b, f.Steps()-steps, raws+1, f.Pending())
		}
		if s.Seq() != i+1 {
			t.Errorf("%s: Seq %d", b, s.Seq())
		}
	}
	names(t, f, "", "current", "manifest-000001", segment(1))
	scans(t, s, "", "", 5, 9, "a=2 b="+long(4096)+" c=")
	scans(t, again(t, f, usual()), "", "", 5, 9, "a=2 b="+long(4096)+" c=")
}

// many is a batch of n writes.
func many(n int) []api.Write {
	var l []api.Write
	for i := range n {
		l = append(l, api.Write{Key: key(i), Value: fmt.Sprint(i)})
	}
	return l
}

func TestApplyOfWhatMayNotBe(t *testing.T) {
	f, s := begun(t, usual())
	applied(t, s, "a=1", "b=2")
	done(t, s.Flush())
	applied(t, s, "-a c=3")
	for what, c := range map[string]struct {
		l    []api.Write
		want api.Errno
	}{
		"no writes":             {nil, api.ErrArg},
		"no writes, a list":     {[]api.Write{}, api.ErrArg},
		"65 writes":             {many(65), api.ErrLong},
		"65 that may not be":    {make([]api.Write, 65), api.ErrLong},
		"an empty key":          {writes("a=1 =2"), api.ErrArg},
		"a long key":            {[]api.Write{{Key: long(513)}}, api.ErrArg},
		"a long value":          {[]api.Write{{Key: "a", Value: long(4097)}}, api.ErrArg},
		"a delete with a value": {[]api.Write{{Key: "a", Value: "1", Del: true}}, api.ErrArg},
		"a key twice":           {writes("a=1 b=2 a=1"), api.ErrThere},
		"put and deleted":       {writes("a=1 -a"), api.ErrThere},
		"twice, and odd":        {writes("a=1 a=2 =3"), api.ErrArg},
	} {
		rejects(t, f, s, what, func() api.Errno {
			seq, e := s.Apply(c.l)
			if seq != 0 {
				t.Errorf("%s: the Seq %d", what, seq)
			}
			return e
		}, c.want)
	}
	applied(t, s, "d=4")
	scans(t, s, "", "", 4, 9, "b=2 c=3 d=4")
}

// TestApplyOfTheLongest: 64 writes with the longest keys and values, and the greatest bytes.
func TestApplyOfTheLongest(t *testing.T) {
	f, s := begun(t, settings(2, 10, 3, 1, 2))
	var l []api.Write
	for i := range 64 {
		l = append(l, api.Write{Key: strings.Repeat("\xff", 511) + string([]byte{byte(200 - i)}), Value: strings.Repeat(string([]byte{byte(i)}), 4096)})
	}
	if seq, e := s.Apply(l); seq != 1 || e != api.OK {
		t.Fatalf("Apply: %d, %d", seq, e)
	}
	holds := func(s *Store) {
		t.Helper()
		for _, w := range l {
			gets(t, s, w.Key, 1, w.Value)
			lacks(t, s, w.Key[:511], 1)
			lacks(t, s, w.Key+"\x00", 1)
		}
		if all, e := s.Scan(api.Span{}, 1, 99); len(all) != 64 || e != api.OK || all[0].Key != l[63].Key || all[63].Value != l[0].Value {
			t.Errorf("Scan: %d, %d", len(all), e)
		}
	}
	holds(s)
	holds(again(t, f, usual()))
	s = opened(t, f, settings(2, 10))
	done(t, s.Flush())
	holds(s)
	compacted(t, s, 0)
	holds(s)
	holds(again(t, f, usual()))
}

func TestApplyWhereThereIsNoRoom(t *testing.T) {
	b := "a=2 b=" + long(100)
	size := len(framed(t, 2, writes(b)))
	for left := range size + 1 {
		f := newFS(t, 5000)
		s := opened(t, f, usual())
		applied(t, s, "a=1")
		fill(t, f, left)
		if left == size {
			applied(t, s, b)
			gets(t, s, "a", 2, "2")
			continue
		}
		for range 2 {
			rejects(t, f, s, "no room", func() api.Errno { _, e := s.Apply(writes(b)); return e }, api.ErrFull)
		}
		// It is not stopped: as soon as there is room, it goes on.
		done(t, f.Remove("filler"), f.SyncNames())
		applied(t, s, b)
		gets(t, again(t, f, usual()), "a", 2, "2")
	}
}

func TestApplyUpToTheLastSeq(t *testing.T) {
	f := newFS(t, 1<<16)
	table := tab{1, 0, []api.Entry{{Key: "a", Value: "x", Seq: maxSeq - 2}}}
	holding(t, f, named(1), table.bytes(t, usual()))
	written(t, f, api.Edit{Adds: metas(table.words()), Log: 1, Seq: maxSeq - 2, Next: 2})
	s := opened(t, f, usual())
	applied(t, s, "a=1", "b=2")
	if s.Seq() != maxSeq {
		t.Fatalf("Seq: %d", s.Seq())
	}
	rejects(t, f, s, "no Seq is left", func() api.Errno { _, e := s.Apply(writes("c=3")); return e }, api.ErrLong)
	gets(t, s, "a", maxSeq, "1")
	gets(t, s, "a", maxSeq-1, "1")
	gets(t, s, "a", maxSeq-2, "x")
	lacks(t, s, "b", maxSeq-1)
	getFails(t, s, "a", maxSeq+1, api.ErrStale)
	// What is there is flushed and compacted as ever.
	if seq := taken(t, s); seq != maxSeq {
		t.Errorf("Snapshot: %d", seq)
	}
	done(t, s.Flush())
	compacted(t, s, 0)
	tables(t, s, meta(3, 1, 2, "a", "b"))
	gets(t, again(t, f, usual()), "a", maxSeq, "1")
}

// TestErrorsOfApplyInTheirOrder: to each call several of them apply (rule 1).
func TestErrorsOfApplyInTheirOrder(t *testing.T) {
	f := newFS(t, 1<<16)
	written(t, f, api.Edit{Log: 1, Seq: maxSeq, Next: 1})
	s := opened(t, f, usual())
	fill(t, f, 0)
	apply := func(l []api.Write, want api.Errno) {
		t.Helper()
		if _, e := s.Apply(l); e != want {
			t.Errorf("Apply of %d writes: %d, not %d", len(l), e, want)
		}
	}
	apply(make([]api.Write, 65), api.ErrLong)
	apply(writes("a=1 a=2 =3"), api.ErrArg)
	apply(writes("a=1 a=2"), api.ErrThere)
	apply(writes("a=1"), api.ErrLong)
	off(t, f)
	apply(nil, api.ErrOff)
	done(t, f.Crash(0, 0))
	apply(nil, api.ErrOff)
	apply(writes("a=1"), api.ErrOff)
	s = nil
	apply(nil, api.ErrNil)
	apply(writes("a=1"), api.ErrNil)
}

func TestApplyWithAFuse(t *testing.T) {
	b := "a=2 b=" + long(200)
	steps := (len(framed(t, 2, writes(b)))+63)/64 + 1
	for n := range steps + 1 {
		f, s := begun(t, usual())
		applied(t, s, "a=1")
		taken(t, s)
		done(t, f.Fuse(n))
		was := f.Steps()
		seq, e := s.Apply(writes(b))
		if n == steps {
			if seq != 2 || e != api.OK || !f.On() {
				t.Errorf("Fuse(%d): %d, %d", n, seq, e)
			}
			gets(t, s, "a", 2, "2")
			continue
		}
		if seq != 0 || e != api.ErrOff || f.On() || f.Steps() != was+n {
			t.Errorf("Fuse(%d): %d, %d, on %v, %d steps", n, seq, e, f.On(), f.Steps()-was)
		}
		stoppedBy(t, s, api.ErrOff)
		done(t, f.Crash(0, 0))
		stoppedBy(t, s, api.ErrOff)
		// Another one over the same file system is not.
		other := opened(t, f, usual())
		gets(t, other, "a", 1, "1")
		applied(t, other, b)
		stoppedBy(t, s, api.ErrOff)
		gets(t, other, "a", 2, "2")
	}
}
