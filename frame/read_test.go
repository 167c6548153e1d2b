package frame

import (
	"bytes"
	"slices"
	"testing"

	"stagepost/api"
)

// These are the tests of P3.2.

func TestReadOfExamples(t *testing.T) {
	none := []byte{0, 0, 0, 0, 199, 75, 103, 72, 0, 0, 0, 0}
	reads(t, none, nil, 12, api.OK)
	refused(t, none[:7], api.ErrMissing)
	refused(t, none[:8], api.ErrMissing)
	refused(t, none[:11], api.ErrMissing)
	none[0] = 1
	refused(t, none, api.ErrCorrupt)
	refused(t, none[:8], api.ErrCorrupt)
	refused(t, none[:7], api.ErrMissing)
}

func TestReadGivesBackTheRecordWhateverStandsBehind(t *testing.T) {
	for _, record := range some() {
		for _, tail := range append(tails(), some()...) {
			reads(t, slices.Concat(framed(record), tail), record, len(record)+12, api.OK)
		}
	}
}

func TestReadOfWhatWasAppended(t *testing.T) {
	for _, record := range some() {
		b, e := Append(nil, record)
		if e != api.OK {
			t.Fatalf("Append of %v: %v", record, e)
		}
		reads(t, b, record, len(b), api.OK)
	}
}

func TestReadOfEachFirstPartOfAFrame(t *testing.T) {
	for _, record := range some() {
		b := framed(record)
		for n := range len(b) {
			refused(t, b[:n], api.ErrMissing)
		}
	}
}

func TestReadOfFewerThanEightBytes(t *testing.T) {
	refused(t, nil, api.ErrMissing)
	for n := range 8 {
		for _, b := range [][]byte{make([]byte, n), bytes.Repeat([]byte{255}, n), mixed(n), head(5)[:n], head(1<<20 + 1)[:n]} {
			refused(t, b, api.ErrMissing)
		}
	}
}

// TestReadOfAHeadThatIsNotSealed has the head alone, and the frame it stands ahead of: no first part of the record matters.
func TestReadOfAHeadThatIsNotSealed(t *testing.T) {
	for _, record := range [][]byte{nil, []byte("first"), mixed(300)} {
		for i := range 8 {
			for c := 1; c < 256; c++ {
				b := framed(record)
				b[i] ^= byte(c)
				for _, n := range []int{8, 9, 11, len(b) - 1, len(b)} {
					refused(t, b[:n], api.ErrCorrupt)
				}
			}
		}
	}
}

func TestReadOfAHeadThatTellsTooMuch(t *testing.T) {
	long := sealed(make([]byte, 1<<20+1)) // all that the least of these heads tells is there, and sealed
	for _, n := range []uint32{1<<20 + 1, 1<<20 + 2, 1 << 21, 1 << 24, 1<<31 - 12, 1<<31 - 1, 1 << 31, 1<<32 - 12, 1<<32 - 8, 1<<32 - 1} {
		refused(t, head(n), api.ErrCorrupt)
		refused(t, slices.Concat(head(n), sealed(nil)), api.ErrCorrupt)
		refused(t, slices.Concat(head(n), sealed([]byte("first"))), api.ErrCorrupt)
		refused(t, slices.Concat(head(n), long), api.ErrCorrupt)
	}
}

func TestReadOfTheLongestRecord(t *testing.T) {
	for _, n := range []int{1<<20 - 1, 1 << 20} {
		record := mixed(n)
		b := framed(record)
		reads(t, b, record, n+12, api.OK)
		reads(t, append(b, 9), record, n+12, api.OK)
		for _, k := range []int{8, 9, 11, 12, n + 7, n + 8, n + 11} {
			refused(t, b[:k], api.ErrMissing)
		}
		b[n+7] ^= 1
		refused(t, b, api.ErrCorrupt)
		refused(t, b[:n+11], api.ErrMissing)
	}
}

func TestReadOfARecordThatIsNotSealed(t *testing.T) {
	for _, record := range [][]byte{nil, {0}, []byte("first"), mixed(60)} {
		good := framed(record)
		for i := 8; i < len(good); i++ {
			for c := 1; c < 256; c++ {
				b := bytes.Clone(good)
				b[i] ^= byte(c)
				refused(t, b, api.ErrCorrupt)
				refused(t, append(b, good...), api.ErrCorrupt)
			}
		}
	}
}

// TestReadOfATornFrameThatIsAlteredToo: as long as its end is missing, nothing behind the head is looked at.
func TestReadOfATornFrameThatIsAlteredToo(t *testing.T) {
	b := framed([]byte("first"))
	b[9] ^= 1
	refused(t, b, api.ErrCorrupt)
	for n := 8; n < len(b); n++ {
		refused(t, b[:n], api.ErrMissing)
	}
}

// TestReadOfAHeadThatTellsAnotherNumber has heads that are sealed, ahead of a record of another length.
func TestReadOfAHeadThatTellsAnotherNumber(t *testing.T) {
	record := mixed(20)
	for n := range uint32(40) {
		b := slices.Concat(head(n), sealed(record))
		switch {
		case n < 20:
			refused(t, b, api.ErrCorrupt)
		case n == 20:
			reads(t, b, record, 32, api.OK)
		default:
			refused(t, b, api.ErrMissing)
			refused(t, append(b, mixed(40)...), api.ErrCorrupt)
		}
	}
	// What is sealed twice is sealed at both lengths: the head says which is meant.
	twice := sealed(sealed(record))
	reads(t, slices.Concat(head(20), twice), record, 32, api.OK)
	reads(t, slices.Concat(head(24), twice), sealed(record), 36, api.OK)
}

func TestReadOfBytesThatAreNoFrames(t *testing.T) {
	for n := 8; n < 64; n++ {
		refused(t, make([]byte, n), api.ErrCorrupt)
		refused(t, mixed(n), api.ErrCorrupt)
		// Eight bytes 255 are sealed; what they tell is above 2^20.
		refused(t, bytes.Repeat([]byte{255}, n), api.ErrCorrupt)
	}
	refused(t, []byte("select b from t where a = 1"), api.ErrCorrupt)
	refused(t, framed([]byte("first"))[1:], api.ErrCorrupt)
	// The highest byte first is another number, or no sealed one.
	refused(t, slices.Concat(sealed([]byte{0, 0, 0, 5}), sealed([]byte("first"))), api.ErrCorrupt)
}

func FuzzRead(f *testing.F) {
	for _, record := range some() {
		f.Add(record)
		f.Add(framed(record))
	}
	f.Add(head(1<<20 + 1))
	f.Fuzz(func(t *testing.T, b []byte) {
		for _, c := range [][]byte{b, framed(b), slices.Concat(framed(b), b), slices.Concat(head(uint32(len(b)/2)), b)} {
			record, n, e := told(c)
			reads(t, c, record, n, e)
		}
		if len(b) > 0 {
			refused(t, framed(b)[:len(b)+11], api.ErrMissing)
		}
	})
}
