package lsm

import (
	"fmt"
	"math/rand/v2"
	"testing"

	"stagepost/api"
	"stagepost/vfs"
)

// These tests play scripts of calls to a store and to a model of one, each over a file system of its own, and hold all that can be asked, and all files, against each other behind each call (P11.1 to P11.7).

// act does what four bytes of a script say. It tells which call that was, and what it answered.
func (w *twin) act(c [4]byte) string {
	w.t.Helper()
	if w.store == nil {
		return w.start(c)
	}
	n, m := int(c[1]), int(c[2])
	switch c[0] % 32 {
	case 0, 1, 2, 3, 4, 5, 6, 7, 8, 9:
		b := scripted(c)
		return w.do("Apply", func(s asked) string { seq, e := s.Apply(b); return fmt.Sprint("Apply ", int(e), ": ", seq) })
	case 10, 11, 12, 13:
		return w.do("Flush", func(s asked) string { return fmt.Sprint("Flush ", int(s.Flush())) })
	case 14, 15, 16:
		return w.do("Compact", func(s asked) string { return fmt.Sprint("Compact ", int(s.Compact(0))) })
	case 17, 18:
		return w.do("Compact", func(s asked) string { return fmt.Sprint("Compact ", int(s.Compact(n%9-1))) })
	case 19, 20:
		return w.do("Snapshot", func(s asked) string { seq, e := s.Snapshot(); return fmt.Sprint("Snapshot ", int(e), ": ", seq) })
	case 21:
		return w.do("Release", func(s asked) string { return fmt.Sprint("Release ", int(s.Release(s.Seq()+1-n%10))) })
	case 22, 23:
		return w.do("Get", func(s asked) string {
			v, there, e := s.Get(key(m%30), s.Seq()+1-n%8)
			return fmt.Sprint("Get ", int(e), ": ", v, there)
		})
	case 24, 25:
		return w.do("Scan", func(s asked) string {
			l, e := s.Scan(api.Span{From: key(m % 30), To: key(int(c[3]) % 40)}, s.Seq()+1-n%8, n/8-1)
			return fmt.Sprint("Scan ", int(e), ": ", l)
		})
	case 26:
		return w.both("Fuse", func(f *vfs.FS) api.Errno { return f.Fuse(n % 64) })
	case 27:
		if n%4 > 0 {
			return w.both("SyncNames", func(f *vfs.FS) api.Errno { f.Fuse(0); return f.SyncNames() })
		}
		return w.both("Safe", (*vfs.FS).Safe)
	case 28:
		return w.both("a file in the way", func(f *vfs.FS) api.Errno { return f.Create([]string{named(m % 20), segment(m % 20)}[n%2]) })
	case 29:
		return w.both("a filler", func(f *vfs.FS) api.Errno {
			f.Remove("filler")
			f.Create("filler")
			return f.Append("filler", make([]byte, max(0, f.Left()-n*4)))
		})
	case 30:
		return w.both("no filler", func(f *vfs.FS) api.Errno { return f.Remove("filler") })
	default:
		w.crash(n%8, m%70)
		return "Crash 0"
	}
}

// both does the same to both file systems.
func (w *twin) both(what string, call func(f *vfs.FS) api.Errno) string {
	w.t.Helper()
	got, want := call(w.f), call(w.g)
	w.aside = w.store != nil && !w.f.On()
	if got != want {
		w.t.Fatalf("%s: %d, not %d", what, got, want)
	}
	w.same(what)
	return fmt.Sprint(what, " ", int(got))
}

// start opens both, perhaps with something the matter.
func (w *twin) start(c [4]byte) string {
	w.t.Helper()
	switch {
	case !w.f.On():
		w.crash(int(c[1])%8, int(c[2])%70)
	case c[0]%16 == 0:
		w.both("Fuse", func(f *vfs.FS) api.Errno { return f.Fuse(int(c[1]) % 32) })
	case c[0]%16 == 1 && c[3]%4 == 0:
		w.both("Remove", func(f *vfs.FS) api.Errno {
			l := f.Names()
			if len(l) == 0 {
				return api.OK
			}
			return f.Remove(l[int(c[1])%len(l)])
		})
	case c[0]%16 == 2:
		// Other settings, perhaps such as may not be.
		was := w.set
		w.set.Per, w.set.Most = int(c[1])%67, int(c[2])%9
		e := w.begin()
		if e != api.OK {
			w.set = was
		}
		return fmt.Sprint("Open ", int(e))
	}
	return fmt.Sprint("Open ", int(w.begin()))
}

// scripted is a batch, seldom such as may not be.
func scripted(c [4]byte) []api.Write {
	var l []api.Write
	for i := range 1 + int(c[1])%5 {
		l = append(l, put(key((int(c[2])+i*int(c[3]))%30), fmt.Sprint("v", c[2], long(int(c[3])%90)), (int(c[1])+i)%3 == 0))
	}
	if c[3] == 7 {
		l = nil
	}
	return l
}

// plays plays a script to both sides. It answers how often which call answered what.
func plays(t testing.TB, room int, set api.Settings, b []byte) map[string]int {
	t.Helper()
	w := twins(t, set, func() *vfs.FS { return newFS(t, room) })
	seen := map[string]int{}
	var aside bool
	for ; len(b) >= 4; b = b[4:] {
		what := w.act([4]byte(b))
		var call string
		var e int
		fmt.Sscanf(what, "%s %d", &call, &e)
		seen[fmt.Sprint(call, " ", e)]++
		if aside && !w.aside {
			seen["aside, then "+call]++
		}
		aside = w.aside
		if w.store != nil && !aside && w.store.Stopped() != api.OK {
			seen[fmt.Sprint("stopped ", int(w.store.Stopped()))]++
			if !w.f.On() {
				w.crash(int(b[1])%8, int(b[2])%70)
			}
			w.store, w.model = nil, nil
		}
	}
	return seen
}

func TestScripts(t *testing.T) {
	seen := map[string]int{}
	for seed := range uint64(150) {
		r := rand.New(rand.NewPCG(seed, 34))
		b := make([]byte, 600)
		for i := range b {
			b[i] = byte(r.Uint32())
		}
		set := settings(1+r.IntN(3), 1+r.IntN(6), 2, 1, 3)
		for what, n := range plays(t, []int{1200, 4000, 100000}[seed%3], set, b) {
			seen[what] += n
		}
	}
	// The scripts are worth something: they meet each error of each call.
	for _, what := range []string{
		"Open 0", "Open 2", "Open 6", "Open 7", "Open 8", "Apply 0", "Apply 2", "Apply 9", "Apply 7", "Apply 8", "Flush 0", "Flush 7", "Flush 8", "Flush 9",
		"Compact 0", "Compact 2", "Compact 7", "Compact 8", "Get 0", "Get 17", "Scan 0", "Scan 2", "Scan 17", "Snapshot 0", "Release 0", "Release 2", "stopped 7",
		"aside, then Apply", "aside, then Flush", "aside, then Compact", "aside, then Snapshot", "aside, then Release", "aside, then Get", "aside, then Scan",
	} {
		if seen[what] < 10 {
			t.Errorf("%s: %d times", what, seen[what])
		}
	}
}

func FuzzScript(f *testing.F) {
	f.Add(5000, uint8(3), []byte("\x00abc\x01bcd\x0aaaa\x02cde\x13aaa\x03def\x0aaaa\x0eaaa\x11bbb\x16aba\x18aba\x1fabc\x00aaa"))
	f.Fuzz(func(t *testing.T, room int, most uint8, b []byte) {
		plays(t, max(0, min(room, 1<<20)), settings(1, 1+int(most)%20), b[:min(len(b), 600)])
	})
}
