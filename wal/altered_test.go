package wal

import (
	"slices"
	"testing"

	"stagepost/api"
	"stagepost/crc"
	"stagepost/vfs"
)

// These are the tests of P5.6: an altered segment is found.

// place is a frame within a segment.
type place struct {
	segment, at, size int
}

// written is a file system with segments that wals wrote, a torn end among them, and the places of all frames.
func written(t testing.TB) (*vfs.FS, []api.Batch, []place) {
	t.Helper()
	lists := [][]api.Write{list(put("a", "1")), list(del("a")), list(put("b", long(70)), del("c")), list(put("d", "")), many(6), list(put("e", "\x00\xff"))}
	f := fresh(t, 1<<16)
	var all []api.Batch
	var frame []place
	w, _ := opened(t, f, 1, 0)
	for i, l := range lists {
		b := batch(i+1, l...)
		before, _ := f.Read(named(w.Segment()))
		appends(t, w, b.Seq, l...)
		all = append(all, b)
		frame = append(frame, place{w.Segment(), len(before), len(frames(b))})
		switch i {
		case 1:
			done(t, w.Roll())
		case 3:
			done(t, f.Fuse(2))
			if _, e := w.Append(many(30)); e != api.ErrOff {
				t.Fatalf("Append: %v", e)
			}
			done(t, f.Crash(1, 30))
			w = tells(t, f, 1, 0, all, 4, 3)
		}
	}
	return f, all, frame
}

// turn turns a burst within a frame: what was turned is turned back by the same call.
func turn(t testing.TB, f *vfs.FS, p place, at int, bits uint32) {
	t.Helper()
	b, _ := f.Durable(named(p.segment))
	was := b[p.at : p.at+p.size]
	now, e := crc.Burst(was, at, bits)
	if e != api.OK || slices.Equal(now, was) {
		t.Fatalf("no burst: %v", e)
	}
	for i := range now {
		if now[i] != was[i] {
			done(t, f.Alter(named(p.segment), p.at+i, now[i]^was[i]))
		}
	}
}

// found says that a burst is found by Open with each seq, and that nothing is told of any batch.
func found(t testing.TB, f *vfs.FS, p place, at int, bits uint32) {
	t.Helper()
	turn(t, f, p, at, bits)
	for seq := range 7 {
		if w, l, e := Open(f, 1, seq); w != nil || l != nil || e != api.ErrCorrupt {
			t.Fatalf("the burst %x at %d of the frame %v: Open(1, %d): %v, %s, %v", bits, at, p, seq, w, brief(l), e)
		}
	}
	turn(t, f, p, at, bits)
}

func TestEachBitIsFound(t *testing.T) {
	f, all, places := written(t)
	was := look(f)
	for _, p := range places {
		for at := range 8 * p.size {
			found(t, f, p, at, 1)
		}
	}
	if now := look(f); now != was {
		t.Errorf("Open changed\n%s\ninto\n%s", was, now)
	}
	tells(t, f, 1, 0, all, 6, 4)
}

func TestBurstsAreFound(t *testing.T) {
	f, all, places := written(t)
	for _, p := range places {
		for at := 0; at < 8*p.size-31; at += 3 {
			for _, bits := range []uint32{3, 0x80000001, 0x82F63B78, 0xAAAAAAAA, 1<<32 - 1, uint32(at)*2654435761 | 1} {
				found(t, f, p, at, bits)
			}
		}
	}
	tells(t, f, 1, 0, all, 6, 4)
}

// TestAlteredAheadOfFirst: what is not needed any more is not read.
func TestAlteredAheadOfFirst(t *testing.T) {
	f, all, places := written(t)
	turn(t, f, places[0], 3, 5)
	turn(t, f, places[1], 30, 1)
	tells(t, f, 2, 2, all[2:], 6, 4)
	refuses(t, f, 1, 0, api.ErrCorrupt)
	turn(t, f, places[5], 70, 9)
	refuses(t, f, 2, 2, api.ErrCorrupt)
}
