package crc

import (
	"bytes"
	"hash/crc32"
)

// plain is the checksum by the library's table, a way that shares nothing with this package's.
func plain(b []byte) uint32 {
	return crc32.Checksum(b, crc32.MakeTable(crc32.Castagnoli))
}

// mixed are n bytes without a pattern that a sum could hide, always the same ones.
func mixed(n int) []byte {
	b := make([]byte, n)
	x := uint32(n) + 1
	for i := range b {
		x = x*1664525 + 1013904223
		b[i] = byte(x >> 24)
	}
	return b
}

// lists are bytes of all sorts: none, each single byte, equal bytes, mixed ones of many lengths.
func lists() [][]byte {
	all := [][]byte{nil, {}, []byte("123456789"), []byte("1234"), []byte("56789")}
	for c := range 256 {
		all = append(all, []byte{byte(c)})
	}
	for _, n := range []int{2, 3, 4, 5, 7, 8, 9, 31, 32, 33, 255, 256, 257, 1000} {
		all = append(all, make([]byte, n), bytes.Repeat([]byte{255}, n), mixed(n))
	}
	return all
}

// behind is a, and b behind it.
func behind(a, b []byte) []byte {
	return append(bytes.Clone(a), b...)
}

// turned is b with each bit turned whose place is at and that of a one of bits together; all of them are in b.
func turned(b []byte, at int, bits uint32) []byte {
	out := append([]byte{}, b...)
	for i := range out {
		for j := range 8 {
			if k := i*8 + j - at; k >= 0 && k < 32 && bits&(1<<k) != 0 {
				out[i] ^= 1 << j
			}
		}
	}
	return out
}
