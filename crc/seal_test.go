package crc

import (
	"bytes"
	"encoding/binary"
	"testing"
)

// These are the tests of P2.2.

func TestSealedOfExamples(t *testing.T) {
	for _, c := range []struct {
		b    []byte
		want []byte
	}{
		{nil, []byte{0, 0, 0, 0}},
		{[]byte{}, []byte{0, 0, 0, 0}},
		{[]byte{0}, []byte{0, 0x51, 0x53, 0x7D, 0x52}},
		{[]byte{255, 255, 255, 255}, bytes.Repeat([]byte{255}, 8)},
		{[]byte("123456789"), []byte("123456789\x83\x92\x06\xE3")},
	} {
		if got := Sealed(c.b); !bytes.Equal(got, c.want) {
			t.Errorf("Sealed of %v: %v, not %v", c.b, got, c.want)
		}
	}
}

func TestSealedHasTheBytesAndTheirSum(t *testing.T) {
	for _, b := range lists() {
		if got, want := Sealed(b), binary.LittleEndian.AppendUint32(bytes.Clone(b), plain(b)); !bytes.Equal(got, want) {
			t.Errorf("Sealed of %v: %v, not %v", b, got, want)
		}
	}
}

func TestOpenedGivesBackWhatWasSealed(t *testing.T) {
	for _, b := range lists() {
		if got, ok := Opened(Sealed(b)); !ok || !bytes.Equal(got, b) {
			t.Errorf("Opened of Sealed of %v: %v, %v", b, got, ok)
		}
		twice := Sealed(Sealed(b))
		if got, ok := Opened(twice); !ok || !bytes.Equal(got, Sealed(b)) {
			t.Errorf("Opened of %v, sealed twice: %v, %v", b, got, ok)
		}
	}
}

// sealed says by the library's sum whether b is Sealed of some bytes. (Eight bytes 255 are.)
func sealed(b []byte) bool {
	n := len(b) - 4
	return n >= 0 && binary.LittleEndian.Uint32(b[n:]) == plain(b[:n])
}

func closed(t *testing.T, b []byte) {
	t.Helper()
	if got, ok := Opened(b); ok || got != nil {
		t.Errorf("Opened of %v: %v, %v", b, got, ok)
	}
}

func TestOpenedOfTooFewBytes(t *testing.T) {
	for n := range 4 {
		closed(t, make([]byte, n))
		closed(t, mixed(n))
		closed(t, Sealed([]byte{0})[:n])
	}
	closed(t, nil)
}

func TestOpenedOfFourBytes(t *testing.T) {
	if got, ok := Opened([]byte{0, 0, 0, 0}); !ok || len(got) != 0 {
		t.Errorf("Opened of the sum of no bytes: %v, %v", got, ok)
	}
	for i := range 4 {
		for c := 1; c < 256; c++ {
			b := make([]byte, 4)
			b[i] = byte(c)
			closed(t, b)
		}
	}
}

func TestOpenedOfFiveBytes(t *testing.T) {
	for c := range 256 {
		b := []byte{byte(c)}
		good := Sealed(b)
		for first := range 256 {
			good[0] = byte(first)
			if got, ok := Opened(good); ok != (first == c) || ok && !bytes.Equal(got, b) {
				t.Errorf("Opened of %v: %v, %v", good, got, ok)
			}
		}
	}
}

func TestOpenedOfBytesThatAreNotSealed(t *testing.T) {
	for _, b := range lists() {
		if !sealed(b) {
			closed(t, b)
		}
	}
	for _, b := range lists() {
		big := binary.BigEndian.AppendUint32(bytes.Clone(b), plain(b))
		if !bytes.Equal(big, Sealed(b)) {
			closed(t, big)
		}
		closed(t, binary.LittleEndian.AppendUint32(bytes.Clone(b), ^plain(b)))
	}
}

func TestOpenedOfSealedBytesWithSomeMissingOrTooMany(t *testing.T) {
	for _, n := range []int{1, 2, 5, 33} {
		b := Sealed(mixed(n))
		for k := range len(b) {
			closed(t, b[:k])
		}
		for c := range 256 {
			closed(t, append(bytes.Clone(b), byte(c)))
			closed(t, append([]byte{byte(c)}, b...))
		}
	}
}

func FuzzOpened(f *testing.F) {
	for _, b := range lists() {
		f.Add(b)
		f.Add(Sealed(b))
	}
	f.Fuzz(func(t *testing.T, b []byte) {
		got, ok := Opened(b)
		if ok != sealed(b) {
			t.Fatalf("Opened of %v says %v", b, ok)
		}
		if ok && !bytes.Equal(got, b[:len(b)-4]) || !ok && got != nil {
			t.Fatalf("Opened of %v: %v, %v", b, got, ok)
		}
		if back, ok := Opened(Sealed(b)); !ok || !bytes.Equal(back, b) {
			t.Fatalf("Opened of Sealed of %v: %v, %v", b, back, ok)
		}
	})
}
