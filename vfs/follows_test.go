package vfs

import (
	"fmt"
	"maps"
	"math/rand/v2"
	"slices"
	"strings"
	"testing"

	"stagepost/api"
)

// These are the tests of P4.8.

// moment is what was held behind a raw step: which file each name named, and how many bytes each file had.
type moment struct {
	names map[string]int
	sizes []int
}

// history is a file system, and all that was held in it since all was durable.
type history struct {
	t       *testing.T
	f       *FS
	now     moment
	files   []string // what was written to each file in all
	moments []moment
	namesAt int   // behind which of them the names were synced
	filesAt []int // and each file
}

func newHistory(t *testing.T, room int) *history {
	h := &history{t: t, f: fresh(t, room), now: moment{names: map[string]int{}}}
	h.note()
	return h
}

// note writes down what is held now.
func (h *history) note() {
	h.moments = append(h.moments, moment{maps.Clone(h.now.names), slices.Clone(h.now.sizes)})
}

// last is the latest moment.
func (h *history) last() int { return len(h.moments) - 1 }

func (h *history) create(name string) {
	if h.f.Create(name) == api.OK {
		h.now.names[name] = len(h.files)
		h.files, h.now.sizes, h.filesAt = append(h.files, ""), append(h.now.sizes, 0), append(h.filesAt, 0)
		h.note()
	}
}

func (h *history) write(name string, b string) {
	if h.f.Append(name, []byte(b)) != api.OK {
		return
	}
	n := h.now.names[name]
	h.files[n] += b
	for len(b) > 0 {
		some := min(len(b), 64)
		h.now.sizes[n] += some
		b = b[some:]
		h.note()
	}
}

func (h *history) move(from, to string) {
	if h.f.Rename(from, to) == api.OK {
		n := h.now.names[from]
		delete(h.now.names, from)
		h.now.names[to] = n
		h.note()
	}
}

func (h *history) remove(name string) {
	if h.f.Remove(name) == api.OK {
		delete(h.now.names, name)
		h.note()
	}
}

func (h *history) sync(name string) {
	if h.f.Sync(name) == api.OK {
		h.filesAt[h.now.names[name]] = h.last()
	}
}

func (h *history) syncNames() {
	if h.f.SyncNames() == api.OK {
		h.namesAt = h.last()
	}
}

// play does n calls, the same ones for the same seed.
func (h *history) play(seed uint64, n int) {
	r := rand.New(rand.NewPCG(seed, 4))
	pick := func() string { return letters[r.IntN(3)] }
	for i := range n {
		switch r.IntN(12) {
		case 0, 1, 2:
			h.create(pick())
		case 3, 4, 5, 6:
			h.write(pick(), strings.Repeat(fmt.Sprintf("<%d>", i), 1+r.IntN(40)))
		case 7, 8:
			h.move(pick(), pick())
		case 9:
			h.remove(pick())
		case 10:
			h.sync(pick())
		case 11:
			h.syncNames()
		}
	}
}

// wasHeld says whether what is held now is what was held behind the moment at, but for what was synced since and, if torn, a part of one more write.
func (h *history) wasHeld(at int, torn bool) bool {
	want := h.moments[max(at, h.namesAt)].names
	if !slices.Equal(h.f.Names(), slices.Sorted(maps.Keys(want))) {
		return false
	}
	parts := 0
	for name, n := range want {
		size := 0
		if m := h.moments[max(at, h.filesAt[n])]; n < len(m.sizes) {
			size = m.sizes[n]
		}
		got, _ := h.f.Read(name)
		if !strings.HasPrefix(h.files[n], string(got)) || len(got) < size || len(got) > size+63 {
			return false
		}
		if len(got) > size {
			parts++
		}
	}
	return parts == 0 || torn && parts == 1
}

// heldOnce says whether what is held now was held at some moment.
func (h *history) heldOnce(torn bool) bool {
	for at := range h.moments {
		if h.wasHeld(at, torn) {
			return true
		}
	}
	return false
}

func TestWhatIsHeldBehindACrashWasHeldBefore(t *testing.T) {
	for seed := range uint64(60) {
		first := newHistory(t, 100000)
		first.play(seed, 40)
		for k := range first.f.Pending() + 2 {
			for _, part := range []int{0, 1, 20, 64} {
				h := newHistory(t, 100000)
				h.play(seed, 40)
				done(t, h.f.Crash(k, part))
				if !h.heldOnce(part > 0) {
					t.Fatalf("seed %d, Crash(%d, %d): never was held\n%s", seed, k, part, look(h.f))
				}
			}
		}
	}
}

// TestCrashGoesBackStepByStep: where nothing was synced, Crash(k, 0) is just what was held behind the raw step k.
func TestCrashGoesBackStepByStep(t *testing.T) {
	for seed := range uint64(60) {
		script := func() *history {
			h := newHistory(t, 100000)
			r := rand.New(rand.NewPCG(seed, 5))
			pick := func() string { return letters[r.IntN(3)] }
			for i := range 30 {
				switch r.IntN(4) {
				case 0:
					h.create(pick())
				case 1:
					h.write(pick(), strings.Repeat(fmt.Sprintf("<%d>", i), 1+r.IntN(40)))
				case 2:
					h.move(pick(), pick())
				case 3:
					h.remove(pick())
				}
			}
			return h
		}
		for k := range script().moments {
			h := script()
			if h.f.Pending() != h.last() {
				t.Fatalf("seed %d: %d are pending, not %d", seed, h.f.Pending(), h.last())
			}
			done(t, h.f.Crash(k, 0))
			if !h.wasHeld(k, false) {
				t.Fatalf("seed %d, Crash(%d, 0): was not held behind that step\n%s", seed, k, look(h.f))
			}
		}
	}
}

// TestWhatWasSyncedIsThere syncs a file and the names, in either order, in the midst of a script that leaves that name alone: any Crash, at any fuse, leaves the file with all that was written ahead.
func TestWhatWasSyncedIsThere(t *testing.T) {
	const name, holds = "kept", "what was written ahead"
	for seed := range uint64(200) {
		h := newHistory(t, 100000)
		h.play(seed, int(seed%20))
		done(t, h.f.Create("new"), h.f.Append("new", []byte(holds)))
		if seed%3 == 0 {
			done(t, h.f.Rename("new", name), h.f.Sync(name), h.f.SyncNames())
		} else if seed%3 == 1 {
			done(t, h.f.Rename("new", name), h.f.SyncNames(), h.f.Sync(name))
		} else {
			done(t, h.f.Sync("new"), h.f.Rename("new", name), h.f.SyncNames())
		}
		if seed%2 == 0 {
			done(t, h.f.Fuse(int(seed%50)))
		}
		h.f.Append(name, []byte(" and behind"))
		h.play(seed+1000, 30)
		h.f.Append(name, []byte(" and behind"))
		done(t, h.f.Crash(int(seed%7), int(seed%11)))
		got, e := h.f.Read(name)
		if e != api.OK || !strings.HasPrefix(string(got), holds) || !strings.HasPrefix(holds+strings.Repeat(" and behind", 2), string(got)) {
			t.Fatalf("seed %d: Read: %q, %v", seed, got, e)
		}
	}
}

func TestAMoveIsDoneWhollyOrNotAtAll(t *testing.T) {
	for k := range 5 {
		for part := range 3 {
			f := saved(t, 100, "a", "old")
			done(t, f.Create("b"), f.Append("b", []byte("new")), f.Sync("b"), f.SyncNames())
			done(t, f.Append("a", []byte("!")), f.Rename("b", "a"), f.Append("a", []byte("?")), f.Crash(k, part))
			got, _ := f.Read("a")
			moved := strings.HasPrefix(string(got), "new") && len(f.Names()) == 1
			stayed := strings.HasPrefix(string(got), "old") && len(f.Names()) == 2
			if moved != (k >= 2) || stayed != (k < 2) {
				t.Errorf("Crash(%d, %d): a has %q, names %q", k, part, got, f.Names())
			}
			if stayed {
				reads(t, f, "b", "new")
			}
		}
	}
}

// TestTwoNamesNeverShareAFile writes to each name behind a script and a crash: no other one has it then.
func TestTwoNamesNeverShareAFile(t *testing.T) {
	for seed := range uint64(200) {
		h := newHistory(t, 100000)
		h.play(seed, 40)
		if seed%2 == 0 {
			done(t, h.f.Crash(int(seed%9), 3))
		}
		was := map[string]string{}
		for _, name := range h.f.Names() {
			b, _ := h.f.Read(name)
			was[name] = string(b)
		}
		for _, name := range h.f.Names() {
			was[name] += "by " + name
			done(t, h.f.Append(name, []byte("by "+name)))
			for other, want := range was {
				reads(t, h.f, other, want)
			}
		}
	}
}
