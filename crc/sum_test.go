package crc

import (
	"bytes"
	"hash/crc32"
	"testing"
)

// These are the tests of P2.1.

func TestSumOfTheChaptersExamples(t *testing.T) {
	for _, c := range []struct {
		b    []byte
		want uint32
	}{
		{nil, 0},
		{[]byte{}, 0},
		{[]byte("123456789"), 0xE3069283},
		{make([]byte, 32), 0x8A9136AA},
		{bytes.Repeat([]byte{255}, 32), 0x62A8AB43},
	} {
		if got := Sum(c.b); got != c.want {
			t.Errorf("Sum of %v: %x, not %x", c.b, got, c.want)
		}
	}
}

func TestSumOfOneByte(t *testing.T) {
	for _, c := range []struct {
		b    byte
		want uint32
	}{
		{0, 0x527D5351},
		{'a', 0xC1D04330},
		{255, 0xFF000000},
	} {
		if got := Sum([]byte{c.b}); got != c.want {
			t.Errorf("Sum of the byte %d: %x, not %x", c.b, got, c.want)
		}
	}
}

func TestSumIsThatOfTheLibrary(t *testing.T) {
	for _, b := range lists() {
		if got, want := Sum(b), plain(b); got != want {
			t.Errorf("Sum of %v: %x, not %x", b, got, want)
		}
	}
}

func TestMoreGoesOn(t *testing.T) {
	for _, c := range []struct {
		sum  uint32
		b    []byte
		want uint32
	}{
		{Sum([]byte("1234")), []byte("56789"), 0xE3069283},
		{0, []byte("123456789"), 0xE3069283},
		{0xE3069283, nil, 0xE3069283},
		{0xE3069283, []byte{}, 0xE3069283},
		{0, nil, 0},
		{1<<32 - 1, nil, 1<<32 - 1},
		{0, []byte{0}, 0x527D5351},
		{1<<32 - 1, []byte{0}, 1<<32 - 1},
		{1<<32 - 1, []byte{255}, 0x5282ACAE},
	} {
		if got := More(c.sum, c.b); got != c.want {
			t.Errorf("More of %x and %v: %x, not %x", c.sum, c.b, got, c.want)
		}
	}
}

func TestMoreIsThatOfTheLibrary(t *testing.T) {
	table := crc32.MakeTable(crc32.Castagnoli)
	for _, sum := range []uint32{0, 1, 2, 0x82F63B78, 0x7D09C487, 0xE3069283, 1 << 31, 1<<31 - 1, 1<<32 - 2, 1<<32 - 1} {
		for _, b := range lists() {
			if got, want := More(sum, b), crc32.Update(sum, table, b); got != want {
				t.Errorf("More of %x and %v: %x, not %x", sum, b, got, want)
			}
		}
	}
}
