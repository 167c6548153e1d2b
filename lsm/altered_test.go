package lsm

import (
	"fmt"
	"slices"
	"strings"
	"testing"

	"stagepost/api"
	"stagepost/crc"
	"stagepost/frame"
	"stagepost/vfs"
)

// These are the tests of P11.10: of what is altered nothing is told.

// place is a frame within a file.
type place struct {
	file     string
	at, size int
}

// places are those of all frames of the held files.
func places(t testing.TB, f *vfs.FS) []place {
	t.Helper()
	var l []place
	for _, name := range f.Names() {
		b, ok := f.Durable(name)
		if !ok {
			t.Fatalf("%s is not durable", name)
		}
		for at, record := range frame.Each(b) {
			l = append(l, place{name, at, len(record) + 12})
		}
	}
	return l
}

// turn turns a burst within a frame.
func turn(t testing.TB, f *vfs.FS, p place, at int, bits uint32) {
	t.Helper()
	b, _ := f.Durable(p.file)
	was := b[p.at : p.at+p.size]
	now, e := crc.Burst(was, at, bits)
	if e != api.OK || slices.Equal(now, was) {
		t.Fatalf("no burst: %v", e)
	}
	for i := range now {
		if now[i] != was[i] {
			done(t, f.Alter(p.file, p.at+i, now[i]^was[i]))
		}
	}
}

// full is a file system with a store's files of all kinds: two edits, tables of three levels, and batches in two segments.
func full(t testing.TB) *vfs.FS {
	t.Helper()
	f := newFS(t, 1<<16)
	s := opened(t, f, settings(2, 4))
	flushed(t, s, "a=1 b=1 c=1 d=1 e=1", "-b f=2")
	compacted(t, s, 0, 1)
	flushed(t, s, "b=3 c=3", "-e g=4")
	compacted(t, s, 0)
	flushed(t, s, "a=5 -c")
	flushed(t, s, "d=6 h=6")
	applied(t, s, "c=7", "-d")
	s = opened(t, f, settings(2, 4))
	applied(t, s, "i=9")
	compacted(t, s, 2)
	done(t, f.SyncNames())
	return f
}

// calls are what is asked of a store, one behind the other. Each tells its answer, and its error.
func calls() []func(s *Store) (string, api.Errno) {
	var l []func(s *Store) (string, api.Errno)
	for _, k := range strings.Fields("a b c d e f g h i j") {
		l = append(l, func(s *Store) (string, api.Errno) {
			v, there, e := s.Get(k, 9)
			return fmt.Sprint("Get ", k, v, there), e
		})
	}
	for _, span := range []api.Span{{From: "d", To: "e"}, {To: "b"}, {From: "g"}, {}} {
		l = append(l, func(s *Store) (string, api.Errno) {
			all, e := s.Scan(span, 9, 99)
			return fmt.Sprint("Scan ", span, all), e
		})
	}
	return append(l,
		func(s *Store) (string, api.Errno) {
			return fmt.Sprint("Due ", s.Due(), s.Tables(), s.Seq()), s.Stopped()
		},
		func(s *Store) (string, api.Errno) { return "Compact 1", s.Compact(1) },
		func(s *Store) (string, api.Errno) { seq, e := s.Snapshot(); return fmt.Sprint("Snapshot ", seq), e },
		func(s *Store) (string, api.Errno) { return "Flush", s.Flush() },
		func(s *Store) (string, api.Errno) { return "Compact 0", s.Compact(0) },
		func(s *Store) (string, api.Errno) {
			seq, e := s.Apply(writes("a=10"))
			return fmt.Sprint("Apply ", seq), e
		},
		func(s *Store) (string, api.Errno) { return fmt.Sprint("Tables ", s.Tables(), s.Held()), s.Stopped() },
		func(s *Store) (string, api.Errno) { return "Release", s.Release(9) },
	)
}

// asIfNot says that each call to a store tells what it tells of a file system that is not altered, or ErrCorrupt, and is stopped then. It says whether it was found.
func asIfNot(t testing.TB, what string, f *vfs.FS, from int) bool {
	t.Helper()
	whole := opened(t, full(t), settings(2, 4))
	s, e := Open(f, settings(2, 4))
	if e == api.ErrCorrupt && s == nil {
		return true
	}
	if e != api.OK {
		t.Fatalf("%s: Open: %d", what, e)
	}
	all := calls()
	for i := range all {
		call := all[(i+from)%len(all)]
		want, should := call(whole)
		got, e := call(s)
		if e == api.ErrCorrupt {
			stoppedBy(t, s, api.ErrCorrupt)
			return true
		}
		if got != want || e != should {
			t.Fatalf("%s: %s, %d; not %s, %d", what, got, e, want, should)
		}
	}
	return false
}

// TestEachFrameThatIsAltered: with bursts of several kinds, and with calls in any order, it is found, as all of it is read.
func TestEachFrameThatIsAltered(t *testing.T) {
	if asIfNot(t, "nothing is altered", full(t), 0) {
		t.Fatalf("nothing was altered")
	}
	kinds := map[string]int{}
	for _, p := range places(t, full(t)) {
		kinds[strings.TrimRight(p.file, "0123456789")]++
		for at := 0; at < 8*p.size-31; at += 7 {
			for _, bits := range []uint32{3, 0x80000001, 0x82F63B78, uint32(at)*2654435761 | 1} {
				f := full(t)
				turn(t, f, p, at, bits)
				if what := fmt.Sprintf("the burst %x at %d of %v", bits, at, p); !asIfNot(t, what, f, at) {
					t.Errorf("%s was not found", what)
				}
			}
		}
	}
	if kinds["current"] != 1 || kinds["manifest-"] != 2 || kinds["sst-"] < 20 || kinds["wal-"] != 3 {
		t.Errorf("the frames are of these files: %v", kinds)
	}
}

func TestEachBitThatIsAltered(t *testing.T) {
	for _, p := range places(t, full(t)) {
		for at := range 8 * p.size {
			f := full(t)
			turn(t, f, p, at, 1)
			if what := fmt.Sprintf("the bit %d of %v", at, p); !asIfNot(t, what, f, at) {
				t.Errorf("%s was not found", what)
			}
		}
	}
}

// TestOpenFindsWhatItReads: of the manifest, of the log, and of a table all but its blocks.
func TestOpenFindsWhatItReads(t *testing.T) {
	frames := map[string]int{}
	all := places(t, full(t))
	for _, p := range all {
		frames[p.file]++
	}
	nth := map[string]int{}
	for _, p := range all {
		nth[p.file]++
		f := full(t)
		turn(t, f, p, 8, 255)
		s, e := Open(f, settings(2, 4))
		block := strings.HasPrefix(p.file, "sst-") && nth[p.file] <= frames[p.file]-3
		if want := api.ErrCorrupt; !block && (s != nil || e != want) {
			t.Errorf("%v: Open: %v, %d; not %d", p, s != nil, e, want)
		}
		if block && (s == nil || e != api.OK) {
			t.Errorf("%v: Open: %v, %d", p, s != nil, e)
		}
	}
}

// TestWhatIsAlteredBehindOpen: a store that is there reads no file again.
func TestWhatIsAlteredBehindOpen(t *testing.T) {
	f := full(t)
	s, whole := opened(t, f, settings(2, 4)), opened(t, full(t), settings(2, 4))
	done(t, f.SyncNames())
	for _, p := range places(t, f) {
		turn(t, f, p, 8*(p.size/2), 0x80000001)
	}
	for i, call := range calls() {
		want, should := call(whole)
		if got, e := call(s); got != want || e != should {
			t.Errorf("the call %d: %s, %d; not %s, %d", i, got, e, want, should)
		}
	}
}

// TestWhatIsAlteredElsewhere: files that nobody needs are removed unread.
func TestWhatIsAlteredElsewhere(t *testing.T) {
	f := full(t)
	x := tab{77, 0, entries("a@1=1 b@1=1")}
	holding(t, f, named(77), x.bytes(t, usual()))
	b, _ := f.Read(segment(5))
	holding(t, f, segment(1), b)
	for _, p := range places(t, f) {
		if p.file == named(77) || p.file == segment(1) {
			turn(t, f, p, 3, 5)
		}
	}
	s := opened(t, f, settings(2, 4))
	scans(t, s, "", "", 9, 99, "a=5 b=3 c=7 f=2 g=4 h=6 i=9")
	if slices.Contains(f.Names(), named(77)) || slices.Contains(f.Names(), segment(1)) {
		t.Errorf("Names: %q", f.Names())
	}
}

func FuzzAltered(f *testing.F) {
	f.Add(uint16(3), uint16(99), uint32(5), uint8(1))
	f.Fuzz(func(t *testing.T, which, at uint16, bits uint32, from uint8) {
		g := full(t)
		l := places(t, g)
		p := l[int(which)%len(l)]
		turn(t, g, p, int(at)%(8*p.size-31), bits|1)
		asIfNot(t, fmt.Sprint(p), g, int(from))
	})
}
