package frame

import (
	"bytes"
	"encoding/binary"
	"hash/crc32"
	"slices"
	"testing"

	"stagepost/api"
	"stagepost/crc"
)

// plain is the checksum by the library's table, a way that shares nothing with package crc's.
func plain(b []byte) uint32 {
	return crc32.Checksum(b, crc32.MakeTable(crc32.Castagnoli))
}

// sealed is b with its checksum behind it.
func sealed(b []byte) []byte {
	return binary.LittleEndian.AppendUint32(bytes.Clone(b), plain(b))
}

// head is the head of a frame that tells n bytes.
func head(n uint32) []byte {
	return sealed(binary.LittleEndian.AppendUint32(nil, n))
}

// framed is the frames of the records, one behind the other.
func framed(records ...[]byte) []byte {
	var out []byte
	for _, r := range records {
		out = slices.Concat(out, head(uint32(len(r))), sealed(r))
	}
	return out
}

// mixed are n bytes without a pattern that a sum could hide, always the same ones.
func mixed(n int) []byte {
	b := make([]byte, n)
	x := uint32(n) + 1
	for i := range b {
		x = x*1664525 + 1013904223
		b[i] = byte(x >> 24)
	}
	return b
}

// some are records of all sorts: none, single bytes, equal bytes, mixed ones of many lengths, and such as are frames themselves.
func some() [][]byte {
	all := [][]byte{nil, {}, {0}, {1}, {255}, []byte("first"), []byte("second"), []byte("123456789")}
	for _, n := range []int{2, 3, 4, 5, 7, 8, 9, 11, 12, 13, 31, 32, 33, 255, 256, 257, 258, 1000} {
		all = append(all, make([]byte, n), bytes.Repeat([]byte{255}, n), mixed(n))
	}
	return append(all, framed(nil), framed([]byte("first"), []byte("second")), head(0), head(5), sealed([]byte("first")))
}

// tails are bytes that may stand behind a frame, good and bad ones.
func tails() [][]byte {
	return [][]byte{nil, {0}, {255}, make([]byte, 40), bytes.Repeat([]byte{255}, 40), mixed(70), framed(nil), framed([]byte("behind"), nil), framed([]byte("torn"))[:13], head(3)}
}

// told is what Read should answer, by the library alone.
func told(b []byte) (record []byte, n int, e api.Errno) {
	if len(b) < 8 {
		return nil, 0, api.ErrMissing
	}
	size := int64(binary.LittleEndian.Uint32(b))
	if binary.LittleEndian.Uint32(b[4:]) != plain(b[:4]) || size > 1048576 {
		return nil, 0, api.ErrCorrupt
	}
	rest := b[8:]
	if int64(len(rest)) < size+4 {
		return nil, 0, api.ErrMissing
	}
	if binary.LittleEndian.Uint32(rest[size:]) != plain(rest[:size]) {
		return nil, 0, api.ErrCorrupt
	}
	return rest[:size], int(size) + 12, api.OK
}

// place is a record and where its frame begins.
type place struct {
	at     int
	record []byte
}

func samePlace(a, b place) bool {
	return a.at == b.at && bytes.Equal(a.record, b.record)
}

// toldAll is what Each should go over, and how Scan should end.
func toldAll(b []byte) (all []place, n int, e api.Errno) {
	for n < len(b) {
		record, size, e := told(b[n:])
		if e != api.OK {
			return all, n, e
		}
		all = append(all, place{n, record})
		n += size
	}
	return all, n, api.OK
}

// short is b, cut so that it can be told in a line.
func short(b []byte) []byte {
	return b[:min(len(b), 64)]
}

// reads says that Read answers this.
func reads(t *testing.T, b, record []byte, n int, e api.Errno) {
	t.Helper()
	got, m, f := Read(b)
	if !bytes.Equal(got, record) || m != n || f != e || e != api.OK && got != nil {
		t.Fatalf("Read of %d bytes %v: %v, %d, %v; not %v, %d, %v", len(b), short(b), short(got), m, f, short(record), n, e)
	}
}

// refused says that Read answers this error, and nothing beside it.
func refused(t *testing.T, b []byte, e api.Errno) {
	t.Helper()
	reads(t, b, nil, 0, e)
}

// scans says that Scan answers this, and that Each goes over it.
func scans(t *testing.T, b []byte, records [][]byte, n int, e api.Errno) {
	t.Helper()
	got, m, f := Scan(b)
	if !slices.EqualFunc(got, records, bytes.Equal) || m != n || f != e {
		t.Fatalf("Scan of %d bytes %v: %d records, %d, %v; not %d, %d, %v", len(b), short(b), len(got), m, f, len(records), n, e)
	}
	at, want := 0, []place(nil)
	for _, r := range records {
		want = append(want, place{at, r})
		at += len(r) + 12
	}
	if got := gone(Each(b)); !slices.EqualFunc(got, want, samePlace) {
		t.Fatalf("Each of %d bytes %v: %v, not %v", len(b), short(b), got, want)
	}
}

// gone is all that an iterator of Each goes over.
func gone(each func(func(int, []byte) bool)) []place {
	var all []place
	for at, record := range each {
		all = append(all, place{at, record})
	}
	return all
}

// burst is b with a burst turned, which has to be one.
func burst(t *testing.T, b []byte, at int, bits uint32) []byte {
	t.Helper()
	out, e := crc.Burst(b, at, bits)
	if e != api.OK || bytes.Equal(out, b) {
		t.Fatalf("no burst of %v, at %d, bits %x: %v", short(b), at, bits, e)
	}
	return out
}
