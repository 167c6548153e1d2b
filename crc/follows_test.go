package crc

import (
	"testing"

	"stagepost/api"
)

// These are the tests of P2.4 and P2.5.

func TestMoreOfSumIsTheSumOfBoth(t *testing.T) {
	for _, a := range lists() {
		for _, b := range lists() {
			if got, want := More(Sum(a), b), Sum(behind(a, b)); got != want {
				t.Fatalf("More of Sum of %v, and of %v: %x, not %x", a, b, got, want)
			}
		}
	}
}

func TestSumsPieceByPieceWhereverItIsCut(t *testing.T) {
	b := mixed(70)
	for i := range len(b) + 1 {
		for j := i; j <= len(b); j++ {
			if got := More(More(Sum(b[:i]), b[i:j]), b[j:]); got != plain(b) {
				t.Fatalf("the sum, cut at %d and %d: %x, not %x", i, j, got, plain(b))
			}
		}
	}
	var sum uint32
	for i := range b {
		sum = More(sum, b[i:i+1])
	}
	if sum != plain(b) {
		t.Errorf("the sum, byte by byte: %x, not %x", sum, plain(b))
	}
}

func xored(lists ...[]byte) []byte {
	out := make([]byte, len(lists[0]))
	for _, l := range lists {
		for i, c := range l {
			out[i] ^= c
		}
	}
	return out
}

func TestSumOfThreeListsXored(t *testing.T) {
	byLength := map[int][][]byte{}
	for _, b := range lists() {
		byLength[len(b)] = append(byLength[len(b)], b)
	}
	for n, all := range byLength {
		all = all[:min(len(all), 40)]
		for i, a := range all {
			for _, b := range all[:i+1] {
				c := mixed(2 * n)[n:]
				if got, want := Sum(xored(a, b, c)), Sum(a)^Sum(b)^Sum(c); got != want {
					t.Fatalf("Sum of %v, %v, %v, xored: %x, not %x", a, b, c, got, want)
				}
			}
		}
	}
}

// found says that a burst of sealed bytes is one, and that it is found.
func found(t *testing.T, sealed []byte, at int, w uint32) {
	t.Helper()
	b, e := Burst(sealed, at, w)
	if e != api.OK {
		t.Fatalf("Burst of %v, at %d, bits %x: %v", sealed, at, w, e)
	}
	if got, ok := Opened(b); ok || got != nil {
		t.Fatalf("Burst of %v, at %d, bits %x, was not found: %v, %v", sealed, at, w, got, ok)
	}
}

func TestEachSingleBitIsFound(t *testing.T) {
	for _, b := range lists() {
		sealed := Sealed(b)
		for at := range 8 * len(sealed) {
			if len(b) > 300 && at%7 != 0 {
				continue
			}
			found(t, sealed, at, 1)
		}
	}
}

// TestEachBurstIsFound has all bursts of up to 12 bits at each place, and many of up to 32.
func TestEachBurstIsFound(t *testing.T) {
	for _, n := range []int{0, 1, 4, 9} {
		sealed := Sealed(mixed(n))
		last := 8 * len(sealed)
		for at := range last {
			for w := uint32(1); w < 1<<min(12, last-at); w += 2 {
				found(t, sealed, at, w)
			}
		}
	}
}

func TestBurstsOf32BitsAreFound(t *testing.T) {
	for _, n := range []int{0, 1, 3, 4, 5, 40} {
		sealed := Sealed(mixed(n))
		for at := range 8*len(sealed) - 31 {
			for _, w := range words()[1:] {
				found(t, sealed, at, w)
			}
			w := uint32(at) + 1
			for range 200 {
				w = w*1664525 + 1013904223
				found(t, sealed, at, w|1)
				found(t, sealed, at, w|1<<31)
			}
		}
	}
}

// TestTheSumsOwnBurstIsFound turns the bits of the polynomial and their neighbours, across the end of the bytes too: all but one of the 33 bits that a sum can't tell.
func TestTheSumsOwnBurstIsFound(t *testing.T) {
	for n := range 12 {
		sealed := Sealed(make([]byte, n))
		for at := range 8*len(sealed) - 31 {
			found(t, sealed, at, poly)
			found(t, sealed, at, poly|1)
			found(t, sealed, at, poly>>1)
			found(t, sealed, at, poly<<1&(1<<32-1)|1)
		}
	}
}

func FuzzBurstIsFound(f *testing.F) {
	f.Add([]byte("some bytes"), 13, uint32(0x80000001))
	f.Add([]byte{}, 0, uint32(1<<32-1))
	f.Fuzz(func(t *testing.T, b []byte, at int, w uint32) {
		sealed := Sealed(b)
		if at < 0 {
			at = -(at + 1)
		}
		at %= 8*len(sealed) - 31
		if w != 0 {
			found(t, sealed, at, w)
		}
	})
}
