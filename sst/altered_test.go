package sst

import (
	"fmt"
	"math/bits"
	"math/rand/v2"
	"slices"
	"testing"

	"stagepost/api"
	"stagepost/crc"
)

// These are the tests of P9.7: Build's bytes with one burst within one frame.

// bursts are bits that are turned together.
func bursts() []uint32 {
	return []uint32{1, 3, 0x80000001, 0xffffffff, 0x10000001, 0xdeadbeef, 0x00010001}
}

// honest says that each call either tells of this table what it tells of the right one, or ErrCorrupt, and that just where it reads the altered block.
func honest(t testing.TB, b []byte, l []api.Entry, per, bits, block int) {
	t.Helper()
	x, m := open(t, b), modelled(l, per, bits)
	m.broken[block] = true
	for _, e := range l {
		gets(t, x, m, e.Key, e.Seq)
		gets(t, x, m, e.Key, e.Seq-1)
		scans(t, x, m, api.Span{From: e.Key, To: e.Key + "\x00"})
		scans(t, x, m, api.Span{From: e.Key})
	}
	if got, e := x.All(); got != nil || e != api.ErrCorrupt {
		t.Fatalf("All: %s, %d", brief(got), e)
	}
	// No call tells an entry that is not one of the table's.
	for _, key := range keys(l) {
		if e, ok, _ := x.Get(key, 1<<30); ok && !slices.Contains(l, e) {
			t.Fatalf("Get of %s tells %s", short(key), brief(list(e)))
		}
		got, _ := x.Scan(api.Span{To: key})
		for _, e := range got {
			if !slices.Contains(l, e) {
				t.Fatalf("Scan up to %s tells %s", short(key), brief(list(e)))
			}
		}
	}
}

// found says what becomes of a burst within the frame that stands at this place among them.
func found(t testing.TB, b []byte, l []api.Entry, per, bitsAKey, frame, frames int) {
	t.Helper()
	if frame < frames-3 {
		honest(t, b, l, per, bitsAKey, frame)
	} else if x, e := Open(b); x != nil || e != api.ErrCorrupt {
		t.Fatalf("Open with an altered frame %d of %d: %v, %d", frame, frames, x != nil, e)
	}
}

// TestEachBurst has a burst at each bit of each frame.
func TestEachBurst(t *testing.T) {
	for _, l := range [][]api.Entry{chapter(), slices.Concat(three()...)} {
		right := built(t, l, 2, 10)
		at := frames(t, right)
		for frame := range len(at) - 1 {
			for place := 8 * at[frame]; place < 8*at[frame+1]; place++ {
				for _, turned := range bursts() {
					if place+bits.Len32(turned) > 8*at[frame+1] {
						continue // it would reach into the next frame
					}
					b, e := crc.Burst(right, place, turned)
					if e != api.OK {
						t.Fatalf("Burst at %d: %d", place, e)
					}
					found(t, b, l, 2, 10, frame, len(at)-1)
				}
			}
		}
	}
}

// TestSomeBursts has some in greater tables, of all shapes.
func TestSomeBursts(t *testing.T) {
	r := rand.New(rand.NewPCG(9, 7))
	for _, shape := range shapes() {
		l := crowd(1+r.IntN(40), r.Uint64())
		right := built(t, l, shape[0], shape[1])
		at := frames(t, right)
		for range 60 {
			frame := r.IntN(len(at) - 1)
			turned := r.Uint32()>>r.IntN(32) | 1
			room := 8*(at[frame+1]-at[frame]) - bits.Len32(turned) + 1
			b, e := crc.Burst(right, 8*at[frame]+r.IntN(room), turned)
			if e != api.OK {
				t.Fatalf("Burst: %d", e)
			}
			found(t, b, l, shape[0], shape[1], frame, len(at)-1)
		}
	}
}

// TestBurstsInTheGreatestTables has one in the first and the last block, and one in each other part.
func TestBurstsInTheGreatestTables(t *testing.T) {
	l := deletes(65536)
	right := built(t, l, 64, 16)
	at := frames(t, right)
	n := len(at) - 1
	for _, frame := range []int{0, 1, 512, 1023, n - 3, n - 2, n - 1} {
		for _, place := range []int{8 * at[frame], 8*at[frame+1] - 32, 4 * (at[frame] + at[frame+1])} {
			b, e := crc.Burst(right, place, 0x80000001)
			if e != api.OK {
				t.Fatalf("Burst at %d: %d", place, e)
			}
			if frame >= 1024 {
				corrupt(t, fmt.Sprint("a burst in the frame ", frame), b)
				continue
			}
			x := open(t, b)
			if got, e := x.All(); got != nil || e != api.ErrCorrupt || x.Reads() != frame+1 {
				t.Errorf("All: %s, %d; Reads %d", brief(got), e, x.Reads())
			}
			for _, block := range []int{0, 1, 511, 512, 513, 1023} {
				want := api.OK
				if block == frame {
					want = api.ErrCorrupt
				}
				for _, i := range []int{64 * block, 64*block + 63} {
					got, ok, e := x.Get(l[i].Key, 1)
					if e != want || ok != (e == api.OK) || ok && got != l[i] {
						t.Errorf("a burst in the block %d: Get of %s: %s, %v, %d", frame, l[i].Key, brief(list(got)), ok, e)
					}
				}
			}
		}
	}
}
