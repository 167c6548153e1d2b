package manifest

import (
	"slices"
	"testing"

	"stagepost/api"
	"stagepost/crc"
	"stagepost/vfs"
)

// These are the tests of P10.7: what is altered is found.

// place is a frame within a file.
type place struct {
	file     string
	at, size int
}

// writtenDown is a file system with what a manifest wrote, the places of all frames, and the version.
func writtenDown(t testing.TB) (*vfs.FS, []place, api.Version) {
	t.Helper()
	f := newFS(t, 1<<16)
	v := version(2, 5, 3, meta(2, 0, 3, "b", "k"), meta(1, 1, 3, "a", "c"))
	done(t, opened(t, f).Add(From(v)))
	m := opened(t, f)
	all := []place{{"current", 0, len(pointing(2))}, {named(2), 0, len(whole(v))}}
	for _, e := range []api.Edit{edit(numbers(2), metas(meta(3, 0, 1, "x", "y")), 2, 6, 4), edit(nil, nil, 3, 6, 4)} {
		last := all[len(all)-1]
		all = append(all, place{named(2), last.at + last.size, len(framesOf(e))})
		v, _ = behindModel(v, e)
		added(t, m, e, v)
	}
	done(t, f.SyncNames())
	return f, all, v
}

// turn turns a burst within a frame: what was turned is turned back by the same call.
func turn(t testing.TB, f *vfs.FS, p place, at int, bits uint32) {
	t.Helper()
	b, _ := f.Durable(p.file)
	was := b[p.at : p.at+p.size]
	now, e := crc.Burst(was, at, bits)
	if e != api.OK || slices.Equal(now, was) {
		t.Fatalf("no burst: %v", e)
	}
	for i := range now {
		if now[i] != was[i] {
			done(t, f.Alter(p.file, p.at+i, now[i]^was[i]))
		}
	}
}

// found says that a burst is found by Open, which changes nothing.
func found(t testing.TB, f *vfs.FS, p place, at int, bits uint32) {
	t.Helper()
	steps := f.Steps()
	turn(t, f, p, at, bits)
	if m, e := Open(f); m != nil || e != api.ErrCorrupt || f.Steps() != steps {
		t.Fatalf("the burst %x at %d of the frame %v: Open: %v, %d; %d steps", bits, at, p, m != nil, e, f.Steps()-steps)
	}
	turn(t, f, p, at, bits)
}

func TestEachBitIsFound(t *testing.T) {
	f, places, v := writtenDown(t)
	was := look(f)
	for _, p := range places {
		for at := range 8 * p.size {
			found(t, f, p, at, 1)
		}
	}
	if now := look(f); now != was {
		t.Errorf("Open changed\n%s\ninto\n%s", was, now)
	}
	tells(t, f, v, 3)
}

func TestBurstsAreFound(t *testing.T) {
	f, places, v := writtenDown(t)
	for _, p := range places {
		for at := range 8*p.size - 31 {
			for _, bits := range []uint32{3, 0x80000001, 0x82F63B78, 0xAAAAAAAA, 1<<32 - 1, uint32(at)*2654435761 | 1} {
				found(t, f, p, at, bits)
			}
		}
	}
	tells(t, f, v, 3)
}

// TestBurstsAheadOfATornEnd: a torn end behind the frames doesn't hide them, and is no burst itself.
func TestBurstsAheadOfATornEnd(t *testing.T) {
	f, places, v := writtenDown(t)
	torn := framesOf(edit(nil, metas(meta(4, 0, 1, "x", "y")), 3, 6, 5))
	for _, n := range []int{1, 7, 8, 9, len(torn) - 1} {
		done(t, f.Append(named(2), torn[:n]), f.Sync(named(2)))
		for _, p := range places {
			for at := 0; at < 8*p.size-31; at += 5 {
				found(t, f, p, at, 0x80000001)
			}
		}
		tells(t, f, v, 3)
		f, places, v = writtenDown(t)
	}
}

// TestWhatIsAlteredElsewhere: other files are not read.
func TestWhatIsAlteredElsewhere(t *testing.T) {
	f, _, v := writtenDown(t)
	holding(t, f, named(1), whole(one()))
	holding(t, f, "current.new", pointing(7))
	turn(t, f, place{named(1), 0, len(whole(one()))}, 3, 5)
	turn(t, f, place{"current.new", 0, len(pointing(7))}, 3, 5)
	m := opened(t, f)
	is(t, m, v, 3)
	names(t, f, "current", named(1), named(3))
}
