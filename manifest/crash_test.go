package manifest

import (
	"math/rand/v2"
	"slices"
	"testing"

	"stagepost/api"
	"stagepost/vfs"
)

// These are the tests of P10.6: wherever the file system goes off, and however it is crashed, all that was acknowledged is there.

// tale is what was done to a file system by one manifest behind the other.
type tale struct {
	t     testing.TB
	f     *vfs.FS
	m     *Manifest
	sure  api.Version   // the one behind the last edit whose Add answered OK, or that an Open told
	doubt []api.Version // the one behind the edit that was being added
}

func begun(t testing.TB) *tale {
	t.Helper()
	return &tale{t: t, f: newFS(t, 1<<24), sure: one()}
}

// open opens a manifest, and holds what it knows against what was done. It says whether the file system stayed on.
func (a *tale) open() bool {
	a.t.Helper()
	m, e := Open(a.f)
	if e == api.ErrOff && !a.f.On() && m == nil {
		return false
	}
	if e != api.OK {
		a.t.Fatalf("Open: %d\n%s", e, look(a.f))
	}
	v := m.Version()
	if !sameVersion(v, a.sure) && !slices.ContainsFunc(a.doubt, func(d api.Version) bool { return sameVersion(v, d) }) {
		a.t.Fatalf("Open knows %s; not %s, or perhaps that of %d others", brief(v), brief(a.sure), len(a.doubt))
	}
	a.m, a.sure, a.doubt = m, v, nil
	return true
}

// added adds an edit that goes, and notes what became of it.
func (a *tale) added(e api.Edit) bool {
	a.t.Helper()
	next, fault := behindModel(a.sure, e)
	if fault != api.OK {
		a.t.Fatalf("%s does not go behind %s", briefEdit(e), brief(a.sure))
	}
	switch fault := a.m.Add(e); {
	case fault == api.OK && sameVersion(a.m.Version(), next):
		a.sure = next
		return true
	case fault != api.ErrOff || a.f.On() || !sameVersion(a.m.Version(), a.sure):
		a.t.Fatalf("Add: %d; it knows %s", fault, brief(a.m.Version()))
	}
	a.doubt = []api.Version{next}
	return false
}

// top is the Numbers and the keys' ends of the tables of a level.
func top(v api.Version, level int) (drops []int, first, last string) {
	for _, x := range v.Tables {
		if x.Level != level {
			continue
		}
		if len(drops) == 0 || x.First < first {
			first = x.First
		}
		drops, last = append(drops, x.Number), max(last, x.Last)
	}
	return drops, first, last
}

// act does one thing of many, of which a number tells which, and says whether the file system stayed on.
func (a *tale) act(n int) bool {
	a.t.Helper()
	v := a.sure
	e := edit(nil, nil, v.Log, v.Seq, v.Next)
	from := key(n*7919%1000, 3)
	switch n % 8 {
	case 0, 1:
		e.Adds, e.Next, e.Log, e.Seq = metas(meta(v.Next, 0, 1+n%99, from, from+"x")), v.Next+1, v.Log+1, v.Seq+3
	case 2:
		e.Adds, e.Next = metas(meta(v.Next, 0, 1, from, from+long(150)), meta(v.Next+1, 0, 2, from, from+long(509))), v.Next+2
	case 3:
		// All of level 0 and of level 1 becomes one table of level 1.
		zero, first, last := top(v, 0)
		one, least, most := top(v, 1)
		if len(one) > 0 && (first == "" || least < first) {
			first = least
		}
		if e.Drops = slices.Concat(zero, one); len(e.Drops) > 0 {
			e.Adds, e.Next = metas(meta(v.Next, 1, 5, first, max(last, most))), v.Next+1
		}
	case 4:
		// What is on level 1 goes a level on, if nothing is there.
		one, first, last := top(v, 1)
		if two, _, _ := top(v, 2); len(one) > 0 && len(two) == 0 {
			e.Drops, e.Adds = one, metas(meta(one[0], 2, 9, first, last))
		}
	case 5:
		e.Log, e.Seq = v.Log+1, v.Seq+100
	case 6:
		e.Drops, _, _ = top(v, n/8%3)
	default:
		return a.open()
	}
	return a.added(e)
}

// played does these acts with a fuse, and says whether all of them were done.
func (a *tale) played(fuse int, acts []int) bool {
	a.t.Helper()
	done(a.t, a.f.Fuse(fuse))
	if !a.open() {
		return false
	}
	for _, n := range acts {
		if !a.act(n) {
			return false
		}
	}
	return true
}

// crashed crashes it, and opens it again.
func (a *tale) crashed(k, t int) {
	a.t.Helper()
	done(a.t, a.f.Crash(k, t))
	if !a.open() {
		a.t.Fatalf("Open goes off without a fuse")
	}
}

// TestEachFuseAndEachCrash burns a fuse down at each raw step of a tale that has all calls in it, and crashes there with each k, and with parts of each length.
func TestEachFuseAndEachCrash(t *testing.T) {
	acts := []int{0, 2, 8, 7, 5, 3, 1, 15, 4, 2, 3, 7}
	for fuse := 0; ; fuse++ {
		first := begun(t)
		wholly := first.played(fuse, acts)
		for k := range first.f.Pending() + 2 {
			for _, part := range []int{0, 1, 7, 8, 9, 20, 63, 1000} {
				a := begun(t)
				a.played(fuse, acts)
				a.crashed(k, part)
				// It goes on from there, and what was torn harms nobody.
				for _, n := range []int{0, 2, 7, 3, 1} {
					if !a.act(n) {
						t.Fatalf("it went off without a fuse")
					}
				}
				a.crashed(0, 0)
			}
		}
		if wholly {
			if fuse < 60 {
				t.Errorf("the tale has just %d raw steps", fuse)
			}
			return
		}
	}
}

// TestEachPartOfAFrame tears one edit at each of its bytes: it is there whole, or not at all.
func TestEachPartOfAFrame(t *testing.T) {
	for _, size := range []int{1, 40, 64, 109, 300} {
		e := edit(nil, metas(meta(1, 0, 1, "a", long(size))), 2, 3, 2)
		v, _ := behindModel(one(), e)
		raws := (len(framesOf(e)) + 63) / 64
		for k := range raws + 1 {
			for part := range 65 {
				a := begun(t)
				a.played(1<<30, nil)
				done(t, a.f.Fuse(raws))
				if a.added(e) {
					t.Fatalf("the fuse of %d is too long", raws)
				}
				a.crashed(k, part)
				want := one()
				if k == raws {
					want = v
				}
				if !sameVersion(a.sure, want) {
					t.Errorf("size %d, Crash(%d, %d): %s", size, k, part, brief(a.sure))
				}
			}
		}
	}
}

// TestOpenAtEachFuse goes off in one Open behind the other, always at the same step: what they left doesn't harm the next one.
func TestOpenAtEachFuse(t *testing.T) {
	for fuse := range 16 {
		for k := range 12 {
			for _, part := range []int{0, 5, 40} {
				a := begun(t)
				a.played(1<<30, []int{0, 2, 3, 1})
				was := a.sure
				for range 6 {
					done(t, a.f.Fuse(fuse))
					a.open()
					done(t, a.f.Crash(k, part))
				}
				a.crashed(0, 0)
				if !sameVersion(a.sure, was) {
					t.Errorf("Fuse(%d), Crash(%d, %d): %s came of %s", fuse, k, part, brief(a.sure), brief(was))
				}
			}
		}
	}
}

// TestTheFirstOpenAtEachFuse: before there ever was a manifest.
func TestTheFirstOpenAtEachFuse(t *testing.T) {
	for fuse := range 10 {
		for k := range 10 {
			for part := range 30 {
				a := begun(t)
				if a.played(fuse, nil) != (fuse == 9) {
					t.Fatalf("a fuse of %d", fuse)
				}
				a.crashed(k, part)
				if !sameVersion(a.sure, one()) {
					t.Errorf("Fuse(%d), Crash(%d, %d): %s", fuse, k, part, brief(a.sure))
				}
			}
		}
	}
}

// TestCrashesWhileItIsOn: what was acknowledged is durable, without anything going off.
func TestCrashesWhileItIsOn(t *testing.T) {
	a := begun(t)
	a.played(1<<30, nil)
	for n := range 80 {
		if !a.act(n * 7) {
			t.Fatalf("it went off")
		}
		if n%3 == 0 {
			was := a.sure
			if a.crashed(0, n); !sameVersion(a.sure, was) {
				t.Fatalf("%s came of %s", brief(a.sure), brief(was))
			}
		}
	}
}

func TestManyCrashes(t *testing.T) {
	doubts, told := 0, 0
	for seed := range uint64(300) {
		r := rand.New(rand.NewPCG(seed, 1010))
		a := begun(t)
		for range 12 {
			var acts []int
			for range r.IntN(12) {
				acts = append(acts, r.IntN(1000))
			}
			a.played(r.IntN(60), acts)
			was, doubt := a.sure, len(a.doubt)
			a.crashed(r.IntN(14), r.IntN(70))
			doubts += doubt
			if !sameVersion(a.sure, was) {
				told++
			}
		}
	}
	if doubts < 300 || told < 30 || told > doubts-30 {
		t.Errorf("%d were being added, %d of them were told", doubts, told)
	}
}

// TestCrashesWhereThereIsLittleRoom: an Open that is ErrFull loses nothing.
func TestCrashesWhereThereIsLittleRoom(t *testing.T) {
	seen := map[api.Errno]int{}
	for seed := range uint64(300) {
		r := rand.New(rand.NewPCG(seed, 1011))
		room := 200 + r.IntN(800)
		f := newFS(t, room)
		v, doubt := one(), one()
		var m *Manifest
		for range 40 {
			if !f.On() {
				done(t, f.Crash(r.IntN(9), r.IntN(70)))
			}
			if m == nil || r.IntN(4) == 0 {
				done(t, f.Fuse(r.IntN(40)))
				next, e := Open(f)
				if e != api.OK && e != api.ErrFull && e != api.ErrOff {
					t.Fatalf("Open: %d, %d are left", e, f.Left())
				}
				seen[e]++
				if m = next; e != api.OK {
					continue
				}
				got := m.Version()
				if !sameVersion(got, v) && !sameVersion(got, doubt) {
					t.Fatalf("Open knows %s; not %s or %s", brief(got), brief(v), brief(doubt))
				}
				v, doubt = got, got
			}
			e := edit(nil, metas(meta(v.Next, 0, 1, "a", long(1+r.IntN(99)))), v.Log, v.Seq, v.Next+1)
			next, _ := behindModel(v, e)
			switch m.Add(e) {
			case api.OK:
				v, doubt = next, next
			case api.ErrOff:
				m, doubt = nil, next
			case api.ErrFull:
				m = nil
			}
		}
	}
	if seen[api.OK] < 500 || seen[api.ErrFull] < 500 || seen[api.ErrOff] < 500 {
		t.Errorf("how often Open answered what: %v", seen)
	}
}

func FuzzCrash(f *testing.F) {
	f.Add([]byte{0, 2, 5, 3, 6, 4, 7, 2}, uint8(9), uint8(1), uint8(30))
	f.Fuzz(func(t *testing.T, b []byte, fuse, k, part uint8) {
		a := begun(t)
		for piece := range slices.Chunk(b[:min(len(b), 100)], 10) {
			var acts []int
			for _, c := range piece {
				acts = append(acts, int(c))
			}
			a.played(int(fuse)+int(piece[0]), acts)
			a.crashed(int(k)%16, int(part))
		}
	})
}
