package frame

import (
	"slices"
	"testing"

	"stagepost/api"
	"stagepost/crc"
)

// These are the tests of P3.4 and P3.5.

func TestEachFirstPartTellsTheWholeFrames(t *testing.T) {
	for _, records := range [][][]byte{
		nil,
		{nil},
		{nil, nil, nil},
		{[]byte("first"), []byte("second")},
		{[]byte("first"), nil, mixed(300), {0}, make([]byte, 12), framed([]byte("within"), nil), {255}},
		{head(0), head(7), sealed(nil), head(1<<20 + 1), make([]byte, 70)},
	} {
		var b []byte
		borders := []int{0}
		for _, record := range records {
			b, _ = Append(b, record)
			borders = append(borders, len(b))
		}
		for cut := range len(b) + 1 {
			whole, ends := slices.BinarySearch(borders, cut)
			if ends {
				scans(t, b[:cut], records[:whole], cut, api.OK)
				continue
			}
			scans(t, b[:cut], records[:whole-1], borders[whole-1], api.ErrMissing)
		}
	}
}

func TestTornEndsOfTheLongestRecord(t *testing.T) {
	records := [][]byte{[]byte("first"), mixed(1 << 20)}
	b := framed(records...)
	for _, cut := range []int{17, 18, 24, 25, 28, 29, 1000, 1 << 19, len(b) - 5, len(b) - 4, len(b) - 1, len(b)} {
		switch cut {
		case 17:
			scans(t, b[:cut], records[:1], 17, api.OK)
		case len(b):
			scans(t, b, records, len(b), api.OK)
		default:
			scans(t, b[:cut], records[:1], 17, api.ErrMissing)
		}
	}
}

func FuzzFirstPart(f *testing.F) {
	f.Add([]byte("some bytes"), 3, 20)
	f.Add([]byte{}, 0, 0)
	f.Fuzz(func(t *testing.T, b []byte, border, cut int) {
		border = max(border, -(border+1)) % (len(b) + 1)
		records := [][]byte{b[:border], nil, b[border:]}
		frames := framed(records...)
		cut = max(cut, -(cut+1)) % (len(frames) + 1)
		whole, n := 0, 0
		for whole < len(records) && n+len(records[whole])+12 <= cut {
			n += len(records[whole]) + 12
			whole++
		}
		e := api.ErrMissing
		if n == cut {
			e = api.OK
		}
		scans(t, frames[:cut], records[:whole], n, e)
	})
}

// found says that a burst of the frame is found, whatever stands behind it, and that a scan ends ahead of it.
func found(t *testing.T, frame []byte, at int, bits uint32, tails [][]byte) {
	t.Helper()
	b := burst(t, frame, at, bits)
	for _, tail := range tails {
		if record, n, e := Read(slices.Concat(b, tail)); record != nil || n != 0 || e != api.ErrCorrupt {
			t.Fatalf("a burst of %v, at %d, bits %x, with %v behind it, was not found: %v, %d, %v", short(frame), at, bits, short(tail), record, n, e)
		}
	}
}

func TestEachSingleBitOfAFrameIsFound(t *testing.T) {
	for _, record := range some() {
		b := framed(record)
		for at := range 8 * len(b) {
			if len(b) > 300 && at > 100 && at%7 != 0 {
				continue
			}
			found(t, b, at, 1, [][]byte{nil, b})
		}
	}
}

// TestShortBurstsAreFound has all bursts of up to 10 bits at each place: in the head, in the record, in either checksum, over their borders.
func TestShortBurstsAreFound(t *testing.T) {
	for _, record := range [][]byte{nil, {0}, []byte("first"), make([]byte, 9)} {
		b := framed(record)
		last := 8 * len(b)
		for at := range last {
			for w := uint32(1); w < 1<<min(10, last-at); w += 2 {
				found(t, b, at, w, [][]byte{nil, mixed(20)})
			}
		}
	}
}

// words are the bits of a burst, edges and others; the polynomial of the sum among them.
func words() []uint32 {
	return []uint32{1, 2, 3, 128, 255, 256, 257, 0x10001, 0x80000001, 0x82F63B78, 0x82F63B79, 0x417B1DBC, 0x05EC76F1, 0x55555555, 0xAAAAAAAA, 1<<31 - 1, 1 << 31, 1<<32 - 2, 1<<32 - 1}
}

func TestLongBurstsAreFound(t *testing.T) {
	for _, record := range [][]byte{nil, {0}, {255, 255, 255}, []byte("first"), mixed(12), framed([]byte("within"))} {
		b := framed(record)
		for at := range 8*len(b) - 31 {
			for _, w := range words() {
				found(t, b, at, w, tails())
			}
			w := uint32(at) + 1
			for range 60 {
				w = w*1664525 + 1013904223
				found(t, b, at, w|1, [][]byte{nil, b})
				found(t, b, at, w|1<<31, [][]byte{nil, b})
			}
		}
	}
}

// TestBurstsOverTheBordersAreFound has a bit on each side of each border: behind the number, the head, the record.
func TestBurstsOverTheBordersAreFound(t *testing.T) {
	for _, n := range []int{0, 1, 2, 3, 4, 5, 200} {
		b := framed(mixed(n))
		for _, border := range []int{4, 8, 8 + n} {
			for at := max(8*border-31, 0); at < 8*border; at++ {
				for to := 8 * border; to <= min(at+31, 8*len(b)-1); to++ {
					found(t, b, at, 1|1<<(to-at), [][]byte{nil, mixed(90), b})
				}
			}
		}
	}
}

// TestBurstsOfTheNumberAreFound makes the head tell another number, up to the greatest, with bytes enough behind it for some of them.
func TestBurstsOfTheNumberAreFound(t *testing.T) {
	b := framed([]byte("first"))
	room := make([]byte, 1<<12)
	for at := range 32 {
		for _, w := range []uint32{1, 3, 5, 7, 1<<8 - 1, 1<<16 - 1, 1<<24 - 1, 1<<32 - 1} {
			found(t, b, at, w, [][]byte{nil, room, framed(room)})
		}
	}
}

func TestBurstsOfTheLongestRecordAreFound(t *testing.T) {
	b := framed(mixed(1 << 20))
	last := 8 * len(b)
	for _, at := range []int{0, 20, 33, 60, 64, 1 << 10, 1 << 22, last - 64, last - 48, last - 32} {
		for _, w := range []uint32{1, 0x82F63B78, 1<<32 - 1} {
			found(t, b, at, w, [][]byte{nil})
		}
	}
}

// TestAnAlteredFrameAmongOthers: a scan tells the records ahead of it, and that it is altered.
func TestAnAlteredFrameAmongOthers(t *testing.T) {
	records := [][]byte{[]byte("first"), nil, []byte("third"), mixed(9)}
	for i, record := range records {
		ahead, after := framed(records[:i]...), framed(records[i+1:]...)
		b := framed(record)
		for at := range 8*len(b) - 31 {
			for _, w := range words() {
				scans(t, slices.Concat(ahead, burst(t, b, at, w), after), records[:i], len(ahead), api.ErrCorrupt)
			}
		}
	}
}

func FuzzBurst(f *testing.F) {
	f.Add([]byte("some bytes"), []byte("behind"), 13, uint32(0x80000001))
	f.Add([]byte{}, []byte{}, 0, uint32(1<<32-1))
	f.Fuzz(func(t *testing.T, record, tail []byte, at int, bits uint32) {
		b := framed(record)
		at = max(at, -(at+1)) % (8*len(b) - 31)
		if _, e := crc.Burst(b, at, bits); e == api.OK && bits != 0 {
			found(t, b, at, bits, [][]byte{nil, tail, b})
		}
	})
}
