package crc

import (
	"bytes"
	"math"
	"math/bits"
	"testing"

	"stagepost/api"
)

// These are the tests of P2.3.

func TestBurstOfExamples(t *testing.T) {
	for _, c := range []struct {
		b    []byte
		at   int
		bits uint32
		want []byte
		e    api.Errno
	}{
		{[]byte{0, 0}, 7, 3, []byte{128, 1}, api.OK},
		{[]byte{0, 0}, 9, 255, nil, api.ErrArg},
		{[]byte{0, 0}, 8, 255, []byte{0, 255}, api.OK},
		{[]byte{255}, 0, 1, []byte{254}, api.OK},
		{[]byte{255}, 7, 1, []byte{127}, api.OK},
		{[]byte{255}, 0, 128, []byte{127}, api.OK},
		{[]byte{255}, 8, 1, nil, api.ErrArg},
		{[]byte{1, 2, 3, 4}, 0, 1<<32 - 1, []byte{254, 253, 252, 251}, api.OK},
		{[]byte{1, 2, 3, 4}, 1, 1<<32 - 1, nil, api.ErrArg},
		{[]byte{1, 2, 3, 4, 5}, 4, 1<<32 - 1, []byte{0xF1, 253, 252, 251, 10}, api.OK},
		{[]byte{0, 0, 0, 0}, 0, 1 << 31, []byte{0, 0, 0, 128}, api.OK},
		{[]byte{0, 0, 0, 0}, 1, 1 << 31, nil, api.ErrArg},
		{[]byte{0, 0, 0, 0}, 31, 1, []byte{0, 0, 0, 128}, api.OK},
		{[]byte{0, 0, 0, 0}, 32, 1, nil, api.ErrArg},
		{[]byte{0, 0, 0, 0}, -1, 2, nil, api.ErrArg},
	} {
		if got, e := Burst(c.b, c.at, c.bits); !bytes.Equal(got, c.want) || e != c.e || e != api.OK && got != nil {
			t.Errorf("Burst of %v, at %d, bits %x: %v, %v", c.b, c.at, c.bits, got, e)
		}
	}
}

// words are bits of a burst, edges and others.
func words() []uint32 {
	return []uint32{0, 1, 2, 3, 128, 255, 256, 257, 0x10001, 0x80000001, 0x82F63B78, 0x55555555, 0xAAAAAAAA, 1<<31 - 1, 1 << 31, 1<<32 - 2, 1<<32 - 1}
}

// TestBurstTurnsJustTheseBits goes over all places of short lists, and some beside them.
func TestBurstTurnsJustTheseBits(t *testing.T) {
	for n := range 8 {
		for _, b := range [][]byte{make([]byte, n), bytes.Repeat([]byte{255}, n), mixed(n)} {
			for at := -40; at <= 8*n+40; at++ {
				for _, w := range words() {
					burst(t, b, at, w)
				}
			}
		}
	}
}

func burst(t *testing.T, b []byte, at int, w uint32) {
	t.Helper()
	got, e := Burst(b, at, w)
	if at < 0 || w != 0 && at+bits.Len32(w) > 8*len(b) {
		if e != api.ErrArg || got != nil {
			t.Fatalf("Burst of %v, at %d, bits %x: %v, %v", b, at, w, got, e)
		}
		return
	}
	if want := turned(b, at, w); e != api.OK || !bytes.Equal(got, want) {
		t.Fatalf("Burst of %v, at %d, bits %x: %v, %v, not %v", b, at, w, got, e, want)
	}
}

func TestBurstAtTheEdgesOfInt(t *testing.T) {
	for _, b := range [][]byte{nil, {}, {0}, {1, 2, 3, 4, 5}, mixed(64)} {
		for i := range 40 {
			for _, w := range words() {
				for _, at := range []int{math.MinInt + i, -1 - i, math.MaxInt32 - i, math.MaxInt - i} {
					got, e := Burst(b, at, w)
					if at > 0 && w == 0 {
						if e != api.OK || !bytes.Equal(got, b) {
							t.Errorf("Burst of %v, at %d, no bits: %v, %v", b, at, got, e)
						}
						continue
					}
					if e != api.ErrArg || got != nil {
						t.Errorf("Burst of %v, at %d, bits %x: %v, %v", b, at, w, got, e)
					}
				}
			}
		}
	}
}

func TestBurstOfAnEmptyList(t *testing.T) {
	for _, b := range [][]byte{nil, {}} {
		for _, at := range []int{0, 1, 7, 8, math.MaxInt} {
			if got, e := Burst(b, at, 0); len(got) != 0 || e != api.OK {
				t.Errorf("Burst of no bytes, at %d, no bits: %v, %v", at, got, e)
			}
			for i := range 32 {
				if got, e := Burst(b, at, 1<<i); got != nil || e != api.ErrArg {
					t.Errorf("Burst of no bytes, at %d, bit %d: %v, %v", at, i, got, e)
				}
			}
		}
	}
}

func TestBurstTwiceIsNoBurst(t *testing.T) {
	for _, b := range lists() {
		for _, w := range words() {
			once, e := Burst(b, 0, w)
			if e != api.OK {
				continue
			}
			if got, e := Burst(once, 0, w); e != api.OK || !bytes.Equal(got, b) {
				t.Errorf("Burst of %v, bits %x, twice: %v, %v", b, w, got, e)
			}
		}
	}
}

func FuzzBurst(f *testing.F) {
	f.Add([]byte{0, 0}, 7, uint32(3))
	f.Add([]byte{}, math.MaxInt, uint32(1))
	f.Add([]byte{1, 2, 3, 4}, math.MinInt, uint32(0))
	f.Fuzz(func(t *testing.T, b []byte, at int, w uint32) {
		if at > 1<<40 {
			at -= 1 << 40 // the oracle counts on from here in the same type
		}
		burst(t, b, at, w)
		if n := 8 * len(b); n > 0 && at >= 0 {
			burst(t, b, at%n, w)
		}
	})
}
