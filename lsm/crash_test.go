package lsm

import (
	"fmt"
	"math/rand/v2"
	"slices"
	"testing"

	"stagepost/api"
	"stagepost/vfs"
)

// These are the tests of P11.9: wherever the file system goes off, and however it is crashed, all that was answered is there.

// tale is what was done to a file system by one store behind the other.
type tale struct {
	t     testing.TB
	f     *vfs.FS
	set   api.Settings
	s     *Store
	sure  past        // the batches whose Apply answered OK, or that an Open told
	doubt []api.Write // the batch that was being applied
	full  int         // how often there was no room
}

func newTale(t testing.TB, room int, set api.Settings) *tale {
	t.Helper()
	return &tale{t: t, f: newFS(t, room), set: set}
}

// open opens a store, and holds its state against what was done. It says whether the file system stayed on, and there was room.
func (a *tale) open() bool {
	a.t.Helper()
	s, e := Open(a.f, a.set)
	if s == nil && (e == api.ErrOff && !a.f.On() || e == api.ErrFull) {
		return false
	}
	if e != api.OK {
		a.t.Fatalf("Open: %d\n%s", e, look(a.f))
	}
	if s.Seq() == len(a.sure)+1 && a.doubt != nil {
		a.sure = append(a.sure, a.doubt)
	}
	if s.Seq() != len(a.sure) {
		a.t.Fatalf("Open tells the Seq %d, not %d; in doubt was %v", s.Seq(), len(a.sure), a.doubt)
	}
	a.s, a.doubt = s, nil
	a.sure.tellsAll(a.t, s, s.Seq())
	a.tidy()
	return true
}

// tidy says that just the files of the version's tables are held.
func (a *tale) tidy() {
	a.t.Helper()
	var want []string
	for _, x := range a.s.Tables() {
		want = append(want, named(x.Number))
	}
	slices.Sort(want)
	names(a.t, a.f, "sst-", want...)
}

// told says whether the store goes on behind a call, or whether it went off with it.
func (a *tale) told(what string, e api.Errno) bool {
	a.t.Helper()
	switch {
	case e == api.ErrOff && !a.f.On() && a.s.Stopped() == api.ErrOff:
		return false
	case e == api.ErrFull && a.s.Stopped() == api.OK:
		a.full++
		return true
	case e != api.OK || !a.f.On():
		a.t.Fatalf("%s: %d, on %v", what, e, a.f.On())
	}
	return true
}

// act does one thing of many, of which a number tells which, and says whether the file system stayed on.
func (a *tale) act(n int) bool {
	a.t.Helper()
	switch n % 10 {
	case 0, 1, 2, 3:
		b := []api.Write{put(key(n*7%13), fmt.Sprint(len(a.sure)), n%3 == 0), put(key(20+n*5%11), long(n%90), n%4 == 1)}
		a.doubt = b
		_, e := a.s.Apply(b)
		if e == api.OK {
			a.sure = append(a.sure, b)
		}
		if e != api.ErrOff {
			a.doubt = nil
		}
		return a.told("Apply", e)
	case 4:
		_, e := a.s.Snapshot()
		return a.told("Snapshot", e)
	case 5, 6:
		return a.told("Flush", a.s.Flush())
	case 7, 8:
		return a.told("Compact", a.s.Compact(n/10%4))
	default:
		return a.open()
	}
}

// played does these acts with a fuse, and says whether all of them were done.
func (a *tale) played(fuse int, acts []int) bool {
	a.t.Helper()
	done(a.t, a.f.Fuse(fuse))
	if !a.open() {
		return false
	}
	for _, n := range acts {
		if !a.act(n) {
			return false
		}
	}
	return true
}

// crashed crashes it, and opens it again.
func (a *tale) crashed(k, t int) {
	a.t.Helper()
	done(a.t, a.f.Crash(k, t))
	if !a.open() {
		a.t.Fatalf("Open goes off without a fuse, or there is no room\n%s", look(a.f))
	}
}

// acts have all calls in them: batches, flushes of one table and of more, compactions of several levels, opening.
func acts() []int {
	return []int{1, 2, 5, 3, 10, 4, 11, 5, 7, 12, 13, 6, 17, 21, 9, 22, 23, 5, 7, 17, 27, 31, 37, 32, 5, 8, 19, 33}
}

// TestEachFuseAndEachCrash burns a fuse down at each raw step of a tale that has all calls in it, and crashes there with each k, and with parts of some lengths.
func TestEachFuseAndEachCrash(t *testing.T) {
	for fuse := 0; ; fuse++ {
		wholly := false
		for k, pending := 0, 0; k <= pending; k++ {
			for _, part := range []int{0, 13, 63} {
				a := newTale(t, 1<<20, settings(1, 3, 1, 2))
				wholly = a.played(fuse, acts())
				pending = a.f.Pending()
				a.crashed(k, part)
				// What is there is good for going on with.
				for _, n := range []int{1, 5, 7, 17, 2} {
					if !a.act(n) {
						t.Fatalf("it went off without a fuse")
					}
				}
				a.crashed(0, 0)
			}
		}
		if wholly {
			if fuse < 150 {
				t.Errorf("the tale has just %d raw steps", fuse)
			}
			return
		}
	}
}

// TestOpenAtEachFuse goes off in one Open behind the other, always at the same step: what they left doesn't harm the next one.
func TestOpenAtEachFuse(t *testing.T) {
	for fuse := range 22 {
		for k := range 10 {
			for _, part := range []int{0, 5, 40} {
				a := newTale(t, 1<<20, settings(1, 3))
				a.played(1<<30, acts())
				was := len(a.sure)
				for range 4 {
					done(t, a.f.Fuse(fuse))
					a.open()
					done(t, a.f.Crash(k, part))
				}
				a.crashed(0, 0)
				if len(a.sure) != was {
					t.Errorf("Fuse(%d), Crash(%d, %d): the Seq %d came of %d", fuse, k, part, len(a.sure), was)
				}
			}
		}
	}
}

// TestCrashesWhileItIsOn: what was answered is durable, without anything going off.
func TestCrashesWhileItIsOn(t *testing.T) {
	for k := range 6 {
		a := newTale(t, 1<<20, settings(2, 4))
		a.played(1<<30, nil)
		for n := range 120 {
			if !a.act(n * 7) {
				t.Fatalf("it went off")
			}
			was := len(a.sure)
			if a.crashed(k, n); len(a.sure) != was {
				t.Fatalf("the Seq %d came of %d", len(a.sure), was)
			}
		}
	}
}

func TestManyCrashes(t *testing.T) {
	doubts, told := 0, 0
	for seed := range uint64(150) {
		r := rand.New(rand.NewPCG(seed, 1111))
		a := newTale(t, 1<<20, settings(1+r.IntN(3), 1+r.IntN(6), 1, 3, 2))
		for range 12 {
			var l []int
			for range r.IntN(24) {
				l = append(l, r.IntN(1000))
			}
			a.played(r.IntN(200), l)
			was, doubt := len(a.sure), a.doubt != nil
			a.crashed(r.IntN(12), r.IntN(70))
			if doubt {
				doubts++
			}
			if len(a.sure) > was {
				told++
			}
		}
	}
	if doubts < 100 || told < 10 || told > doubts-10 {
		t.Errorf("%d were being applied, %d of them were told", doubts, told)
	}
}

// TestCrashesWhereThereIsLittleRoom: what is refused loses nothing, and leaves nothing that harms.
func TestCrashesWhereThereIsLittleRoom(t *testing.T) {
	full, opens, refused := 0, 0, 0
	for seed := range uint64(200) {
		r := rand.New(rand.NewPCG(seed, 1112))
		room := 600 + r.IntN(3000)
		a := newTale(t, room, settings(1+r.IntN(3), 1+r.IntN(6)))
		for range 12 {
			done(t, a.f.Crash(r.IntN(9), r.IntN(70)), a.f.Fuse(r.IntN(250)))
			if !a.open() {
				refused++
				continue
			}
			opens++
			for range r.IntN(40) {
				if n := r.IntN(1000); n%10 != 9 && !a.act(n) {
					break
				}
			}
		}
		full += a.full
	}
	if full < 1000 || opens < 200 || refused < 50 {
		t.Errorf("%d were full, %d opened, %d refused", full, opens, refused)
	}
}

func FuzzCrash(f *testing.F) {
	f.Add([]byte{1, 2, 5, 3, 7, 4, 11, 5, 7, 17}, uint8(60), uint8(1), uint8(30))
	f.Fuzz(func(t *testing.T, b []byte, fuse, k, part uint8) {
		a := newTale(t, 1<<20, settings(1, 3))
		for piece := range slices.Chunk(b[:min(len(b), 100)], 20) {
			var l []int
			for _, c := range piece {
				l = append(l, int(c))
			}
			a.played(int(fuse)+int(piece[0]), l)
			a.crashed(int(k)%16, int(part))
		}
	})
}
