package wal

import (
	"fmt"
	"math/rand/v2"
	"slices"
	"testing"

	"stagepost/api"
	"stagepost/vfs"
)

// These are the tests of P5.5: wherever the file system goes off, and however it is crashed, all that was acknowledged is there.

// tale is what was done to a file system by one wal behind the other, always opened with the same first and seq.
type tale struct {
	t          testing.TB
	f          *vfs.FS
	first, seq int
	w          *Wal
	sure       []api.Batch // those whose Append answered OK, and those that an Open told
	doubt      []api.Batch // the one that was being appended
}

// open opens a wal, and holds what it tells against what was done. It says whether the file system stayed on.
func (a *tale) open() bool {
	a.t.Helper()
	w, l, e := Open(a.f, a.first, a.seq)
	if e == api.ErrOff && !a.f.On() && w == nil && l == nil {
		return false
	}
	if e != api.OK {
		a.t.Fatalf("Open: %v\n%s", e, look(a.f))
	}
	if !sameBatches(l, a.sure) && !sameBatches(l, slices.Concat(a.sure, a.doubt)) {
		a.t.Fatalf("Open tells %s; not %s, and perhaps %s", brief(l), brief(a.sure), brief(a.doubt))
	}
	a.w, a.sure, a.doubt = w, l, nil
	if w.Seq() != a.last() {
		a.t.Fatalf("Seq %d behind Open, not %d", w.Seq(), a.last())
	}
	return true
}

// last is the Seq of the last batch that is sure.
func (a *tale) last() int { return a.seq + len(a.sure) }

// appended appends a batch of these writes, and notes what became of it.
func (a *tale) appended(l []api.Write) bool {
	a.t.Helper()
	b := batch(a.last()+1, l...)
	seq, e := a.w.Append(l)
	if e == api.OK && seq == b.Seq {
		a.sure = append(slices.Clone(a.sure), b)
		return true
	}
	if e != api.ErrOff || a.f.On() {
		a.t.Fatalf("Append: %d, %v", seq, e)
	}
	a.doubt = []api.Batch{b}
	return false
}

// passed says whether a call was done, which may be refused by a file system that goes off alone.
func (a *tale) passed(e api.Errno) bool {
	a.t.Helper()
	if e != api.OK && (e != api.ErrOff || a.f.On()) {
		a.t.Fatalf("a call was refused: %v", e)
	}
	return e == api.OK
}

// act does one thing of many, of which a number tells which, and says whether the file system stayed on.
func (a *tale) act(n int) bool {
	a.t.Helper()
	key := fmt.Sprint("key ", n)
	switch n % 8 {
	case 0, 1:
		return a.appended(list(put(key, "v")))
	case 2:
		return a.appended(list(del(key), put("other", long(150))))
	case 3:
		// With its head and its sums this one has just 128 bytes.
		return a.appended(list(put("k", long(128-12-6))))
	case 4:
		return a.appended(many(1 + n%20))
	case 5:
		return a.passed(a.w.Roll())
	case 6:
		return a.passed(a.w.Drop(a.first))
	default:
		return a.open()
	}
}

// begun is a tale over a file system on which others wrote the segments ahead of the first one.
func begun(t testing.TB, first, seq int) *tale {
	t.Helper()
	f := fresh(t, 1<<24)
	for n := 1; n < first; n++ {
		holding(t, f, named(n), frames(simples(seq, seq)...))
	}
	return &tale{t: t, f: f, first: first, seq: seq}
}

// played does these acts with a fuse, and says whether all of them were done.
func (a *tale) played(fuse int, acts []int) bool {
	a.t.Helper()
	done(a.t, a.f.Fuse(fuse))
	if !a.open() {
		return false
	}
	for _, n := range acts {
		if !a.act(n) {
			return false
		}
	}
	return true
}

// crashed crashes it, and opens it again.
func (a *tale) crashed(k, t int) {
	a.t.Helper()
	done(a.t, a.f.Crash(k, t))
	if !a.open() {
		a.t.Fatalf("Open goes off without a fuse")
	}
}

// TestEachFuseAndEachCrash burns a fuse down at each raw step of a tale that has all calls in it, and crashes there with each k, and with parts of each length.
func TestEachFuseAndEachCrash(t *testing.T) {
	acts := []int{0, 2, 5, 3, 6, 4, 5, 5, 1, 7, 2, 6, 5, 9, 2}
	for fuse := 0; ; fuse++ {
		first := begun(t, 3, 2)
		whole := first.played(fuse, acts)
		for k := range first.f.Pending() + 2 {
			for _, part := range []int{0, 1, 7, 8, 9, 20, 62, 63, 64, 1000} {
				a := begun(t, 3, 2)
				a.played(fuse, acts)
				a.crashed(k, part)
				// It goes on from there, and what was torn harms nobody.
				for _, n := range []int{0, 5, 2, 7, 1} {
					if !a.act(n) {
						t.Fatalf("it went off without a fuse")
					}
				}
				a.crashed(0, 0)
			}
		}
		if whole {
			if fuse < 35 {
				t.Errorf("the tale has just %d raw steps", fuse)
			}
			return
		}
	}
}

// TestEachPartOfAFrame tears one batch at each of its bytes: it is there whole, or not at all.
func TestEachPartOfAFrame(t *testing.T) {
	for _, size := range []int{1, 40, 45, 46, 64, 109, 300} {
		l := list(put("k", long(size)))
		raws := (len(frames(batch(4, l...))) + 63) / 64
		for k := range raws + 1 {
			for part := range 65 {
				a := begun(t, 1, 0)
				a.played(1<<30, []int{0, 0, 2})
				done(t, a.f.Fuse(raws))
				if a.appended(l) {
					t.Fatalf("the fuse of %d is too long", raws)
				}
				a.crashed(k, part)
				if want := 3 + k/raws; len(a.sure) != want {
					t.Errorf("size %d, Crash(%d, %d): %d batches, not %d", size, k, part, len(a.sure), want)
				}
			}
		}
	}
}

// TestCrashesWhileItIsOn: what was acknowledged is durable, without anything going off.
func TestCrashesWhileItIsOn(t *testing.T) {
	a := begun(t, 2, 5)
	a.played(1<<30, nil)
	for n := range 60 {
		if !a.act(n * 7) {
			t.Fatalf("it went off")
		}
		settled(t, a.f)
		if n%5 == 0 {
			a.crashed(0, n)
		}
	}
}

func TestManyCrashes(t *testing.T) {
	doubts, told := 0, 0
	for seed := range uint64(300) {
		r := rand.New(rand.NewPCG(seed, 55))
		a := begun(t, 1+r.IntN(4), r.IntN(5))
		for range 12 {
			var acts []int
			for range r.IntN(12) {
				acts = append(acts, r.IntN(1000))
			}
			a.played(r.IntN(40), acts)
			was, doubt := len(a.sure), len(a.doubt)
			a.crashed(r.IntN(12), r.IntN(70))
			doubts += doubt
			told += len(a.sure) - was
		}
	}
	if doubts < 500 || told < 100 || told > doubts-100 {
		t.Errorf("%d were being appended, %d of them were told", doubts, told)
	}
}

// TestDropAtEachFuse drops segments ahead of the first one that is still needed: that one, and all behind it, tell what they told.
func TestDropAtEachFuse(t *testing.T) {
	for below := 2; below <= 5; below++ {
		for fuse := range below + 1 {
			for k := range below + 1 {
				f, w := rolled(t, 1, 5)
				done(t, f.Fuse(fuse))
				e := w.Drop(below)
				if (e == api.OK) != (fuse == below) {
					t.Errorf("Drop(%d) with a fuse of %d: %v", below, fuse, e)
				}
				done(t, f.Crash(k, 0))
				w = tells(t, f, below, below-1, simples(below, 5), 5, 6)
				fill(t, w, 6, 6)
				done(t, w.Drop(below))
				tells(t, f, below, below-1, simples(below, 6), 6, 7)
			}
		}
	}
}

// TestOpenAtEachFuse goes off in one Open behind the other.
func TestOpenAtEachFuse(t *testing.T) {
	for n := range 2 {
		for k := range 2 {
			a := begun(t, 2, 1)
			a.played(1<<30, []int{0, 2, 5, 1})
			for range 10 {
				done(t, a.f.Fuse(n))
				if a.open() {
					t.Fatalf("the fuse of %d is too long", n)
				}
				done(t, a.f.Crash(k, 0))
			}
			a.crashed(0, 0)
			if len(a.sure) != 3 {
				t.Errorf("%d batches", len(a.sure))
			}
		}
	}
}

func FuzzCrash(f *testing.F) {
	f.Add([]byte{0, 2, 5, 3, 6, 4, 7, 2}, uint8(9), uint8(1), uint8(30))
	f.Fuzz(func(t *testing.T, b []byte, fuse, k, part uint8) {
		a := begun(t, 1+int(k)%3, int(part)%3)
		for piece := range slices.Chunk(b[:min(len(b), 100)], 10) {
			var acts []int
			for _, c := range piece {
				acts = append(acts, int(c))
			}
			a.played(int(fuse)+int(piece[0]), acts)
			a.crashed(int(k)%16, int(part))
		}
	})
}
