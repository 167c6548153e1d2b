package sst

import (
	"encoding/binary"
	"fmt"
	"math"
	"math/rand/v2"
	"slices"
	"testing"

	"stagepost/api"
)

// These are the tests of P9.2, and of P9.5.

func TestOpenOfBuild(t *testing.T) {
	for what, l := range samples() {
		for _, x := range shapes() {
			got, m := sound(t, what, built(t, l, x[0], x[1]))
			says(t, got, m)
			if want := modelled(l, x[0], x[1]); got.Len() != len(l) || got.Blocks() != len(want.blocks) || got.Last() != l[len(l)-1].Key || got.Reads() != 0 {
				t.Errorf("%s: Len %d, Blocks %d, Last %s, Reads %d", what, got.Len(), got.Blocks(), short(got.Last()), got.Reads())
			}
		}
	}
}

func TestOpenOfFewBytes(t *testing.T) {
	b := built(t, chapter(), 2, 10)
	corrupt(t, "no bytes", nil)
	corrupt(t, "an empty list", []byte{})
	for n := range 40 {
		corrupt(t, fmt.Sprint(n, " bytes 0"), make([]byte, n))
		corrupt(t, fmt.Sprint("the last ", n, " bytes"), b[len(b)-n:])
		corrupt(t, fmt.Sprint("the first ", n, " bytes"), b[:n])
	}
	// 36 bytes that are a footer's frame, and nothing ahead of it.
	for _, x := range []uint64{0, 1, 35, 36, 37, math.MaxUint64} {
		for _, y := range []uint64{0, 1, 36, math.MaxUint64} {
			corrupt(t, "a footer alone", footed(nil, x, y, 1))
		}
	}
}

func TestOpenOfTornTables(t *testing.T) {
	for _, x := range shapes()[:5] {
		b := built(t, chapter(), x[0], x[1])
		for n := range b {
			corrupt(t, fmt.Sprint("the first ", n), b[:n])
			if n > 0 {
				corrupt(t, fmt.Sprint("all but the first ", n), b[n:])
			}
			corrupt(t, fmt.Sprint("all but the byte ", n), slices.Concat(b[:n], b[n+1:]))
			corrupt(t, fmt.Sprint("one more at ", n), slices.Concat(b[:n], []byte{7}, b[n:]))
		}
		for c := range 256 {
			corrupt(t, "one byte more at the end", append(slices.Clone(b), byte(c)))
			corrupt(t, "one byte more at the beginning", append([]byte{byte(c)}, b...))
		}
		corrupt(t, "twice", slices.Concat(b, b))
		foot := b[len(b)-36:]
		corrupt(t, "its footer twice", slices.Concat(b, foot))
	}
}

// TestOpenOfAlteredParts turns each bit: Open finds those of the filter, the index and the footer, and does not read the blocks.
func TestOpenOfAlteredParts(t *testing.T) {
	b := built(t, row(5), 2, 10)
	at := frames(t, b)
	filter := at[len(at)-4]
	for i := range 8 * len(b) {
		turned := slices.Clone(b)
		turned[i/8] ^= 1 << (i % 8)
		if i/8 >= filter {
			corrupt(t, fmt.Sprint("the bit ", i, " turned"), turned)
			continue
		}
		if x, m := sound(t, fmt.Sprint("the bit ", i, " turned"), turned); x.Reads() != 0 || !slices.Contains(m.broken, true) {
			t.Errorf("the bit %d turned: %d blocks are read, %v are broken", i, x.Reads(), m.broken)
		}
	}
}

// TestOpenDoesNotReadBlocks has anything at all in their place.
func TestOpenDoesNotReadBlocks(t *testing.T) {
	r := rawOf(row(5), 2, 10)
	b, filter, _ := r.body()
	all := r.bytes()
	for _, c := range []byte{0, 1, 255} {
		copy(all, slices.Repeat([]byte{c}, int(filter)))
		x, m := sound(t, "no block at all", all)
		says(t, x, m)
		if x.Len() != 5 || x.Blocks() != 3 || x.Last() != "k00004" || x.Reads() != 0 {
			t.Errorf("Len %d, Blocks %d, Last %s, Reads %d", x.Len(), x.Blocks(), x.Last(), x.Reads())
		}
	}
	if len(b) != len(all)-36 {
		t.Errorf("%d and %d bytes", len(b), len(all))
	}
}

func TestFootersThatAreNoFooters(t *testing.T) {
	b, filter, index := rawOf(row(5), 2, 10).body()
	sound(t, "the right one", footed(b, filter, index, 5))
	corrupt(t, "two numbers", footed(b, filter, index))
	corrupt(t, "four numbers", footed(b, filter, index, 5, 0))
	corrupt(t, "no number", footed(b))
	whole := footed(nil, filter, index, 5)[8:32]
	corrupt(t, "23 bytes", slices.Concat(b, framed(whole[:23])))
	corrupt(t, "25 bytes", slices.Concat(b, framed(append(slices.Clone(whole), 0))))
	corrupt(t, "no frame", slices.Concat(b, make([]byte, 12), whole))
	corrupt(t, "sealed, without a head", slices.Concat(b, make([]byte, 8), sealed(whole)))
	// A frame in these 36 bytes that does not fill them.
	corrupt(t, "a shorter frame, and one byte", slices.Concat(b, framed(whole[:23]), []byte{0}))
	// The highest byte first.
	turned := slices.Clone(whole)
	for i := range 3 {
		slices.Reverse(turned[8*i : 8*i+8])
	}
	corrupt(t, "the highest byte first", slices.Concat(b, framed(turned)))
	corrupt(t, "another order", footed(b, index, filter, 5))
	corrupt(t, "another order", footed(b, 5, filter, index))
}

// numbers are those that a footer may say, all but one of them wrong: near the right one, near others, and such as wrap round.
func numbers(right uint64, others ...uint64) []uint64 {
	var all []uint64
	for _, x := range append(others, right, 0, 36, 1<<31, 1<<32, 1<<62, 1<<63) {
		all = append(all, x-1, x, x+1, -x, x|1<<63, x+1<<32, x^math.MaxUint64)
	}
	slices.Sort(all)
	return slices.DeleteFunc(slices.Compact(all), func(x uint64) bool { return x == right })
}

func TestFootersWhosePlacesAreWrong(t *testing.T) {
	for _, l := range [][]api.Entry{chapter(), list(put("a", 1)), row(9)} {
		r := rawOf(l, 2, 10)
		b, filter, index := r.body()
		end, n := uint64(len(b)), uint64(len(l))
		for _, x := range numbers(filter, index, end, end+36) {
			corrupt(t, fmt.Sprint("the filter at ", x), footed(b, x, index, n))
			for _, y := range numbers(index, filter, end, end+36) {
				corrupt(t, fmt.Sprint("the filter at ", x, ", the index at ", y), footed(b, x, y, n))
			}
		}
		for _, x := range numbers(index, filter, end, end+36) {
			corrupt(t, fmt.Sprint("the index at ", x), footed(b, filter, x, n))
		}
		// At each place there is.
		for x := range end + 40 {
			if x != filter {
				corrupt(t, fmt.Sprint("the filter at ", x), footed(b, x, index, n))
			}
			if x != index {
				corrupt(t, fmt.Sprint("the index at ", x), footed(b, filter, x, n))
			}
		}
	}
}

func TestHowManyEntriesTheFooterSays(t *testing.T) {
	b, filter, index := rawOf(row(5), 2, 10).body()
	for _, n := range []uint64{0, 65537, 65538, 1 << 17, 1 << 31, 1 << 32, 1<<32 + 5, 1 << 63, 1<<63 + 5, math.MaxUint64, math.MaxUint64 - 4} {
		corrupt(t, fmt.Sprint(n, " entries"), footed(b, filter, index, n))
	}
	// Those from 1 to 65,536 are taken, right or not: Len is what the footer says.
	for _, n := range []uint64{1, 2, 3, 4, 5, 6, 64, 65535, 65536} {
		x, m := sound(t, fmt.Sprint(n, " entries"), footed(b, filter, index, n))
		says(t, x, m)
		if l, e := x.All(); x.Len() != int(n) || !slices.Equal(l, row(5)) || e != api.OK {
			t.Errorf("Len %d; All: %s, %d", x.Len(), brief(l), e)
		}
	}
}

// TestFramesThatDoNotTouch has bytes between two frames, the footer telling where these begin.
func TestFramesThatDoNotTouch(t *testing.T) {
	r := rawOf(row(5), 2, 10)
	right, filterAt, indexAt := r.body()
	for _, gap := range [][]byte{{0}, {255}, make([]byte, 12), framed(nil), framed([]byte{1, 255}), framed(r.filter), framed(r.index)} {
		n := uint64(len(gap))
		blocks, filter, index := right[:filterAt], right[filterAt:indexAt], right[indexAt:]
		corrupt(t, "a gap ahead of the blocks", footed(slices.Concat(gap, right), filterAt+n, indexAt+n, 5))
		corrupt(t, "a gap behind the blocks", footed(slices.Concat(blocks, gap, filter, index), filterAt+n, indexAt+n, 5))
		corrupt(t, "a gap behind the filter", footed(slices.Concat(blocks, filter, gap, index), filterAt, indexAt+n, 5))
		corrupt(t, "a gap behind the index", footed(slices.Concat(right, gap), filterAt, indexAt, 5))
		corrupt(t, "a gap behind the footer", slices.Concat(footed(right, filterAt, indexAt, 5), gap))
	}
	// Two parts in one place, and parts that changed places.
	one := framed([]byte{1, 255})
	corrupt(t, "the filter is the index", footed(slices.Concat(right[:filterAt], one), filterAt, filterAt, 5))
	corrupt(t, "the index is the footer", footed(right[:indexAt], filterAt, indexAt, 5))
	turned := slices.Concat(right[:filterAt], right[indexAt:], right[filterAt:indexAt])
	n := uint64(len(right)) - indexAt
	corrupt(t, "the index ahead of the filter", footed(turned, filterAt+n, filterAt, 5))
	corrupt(t, "the index is said to be the filter", footed(turned, filterAt, filterAt+n, 5))
	corrupt(t, "no blocks", footed(right[filterAt:], 0, indexAt-filterAt, 5))
}

func TestFiltersThatMayNotBe(t *testing.T) {
	r := rawOf(row(5), 2, 10)
	for _, filter := range [][]byte{nil, {}, {0}, {1}, {7}, {12}, {0, 255}, {13, 255}, {14, 0}, {128, 0}, {255, 255}, append([]byte{0}, r.filter[1:]...), append([]byte{13}, r.filter[1:]...)} {
		r.filter = filter
		corrupt(t, fmt.Sprint("the filter ", filter), r.bytes())
	}
	// Those that may be are taken, whatever they have.
	for _, filter := range [][]byte{{1, 0}, {1, 255}, {12, 0}, {12, 255}, {7, 1, 2, 3}, make([]byte, 300)} {
		filter[0] = max(filter[0], 1)
		r.filter = filter
		x, m := sound(t, fmt.Sprint("the filter ", filter), r.bytes())
		same(t, x, m)
	}
}

// TestFiltersOfTheGreatestLength: Open takes longer ones than Build makes, as long as their frame is one.
func TestFiltersOfTheGreatestLength(t *testing.T) {
	r := rawOf(row(5), 2, 10)
	r.filter = append([]byte{3}, slices.Repeat([]byte{255}, 1<<20-1)...)
	x, m := sound(t, "a filter of 2^20 bytes", r.bytes())
	gets(t, x, m, "k00003", 9)
	gets(t, x, m, "k00003x", 9)
	r.filter = append(r.filter, 255)
	corrupt(t, "a filter of 2^20 + 1 bytes", r.bytes())
}

// indexes says what becomes of a table with another index.
func indexes(t testing.TB, what string, r raw, index []byte, taken bool) {
	t.Helper()
	r.index = index
	if !taken {
		corrupt(t, what, r.bytes())
		return
	}
	x, m := sound(t, what, r.bytes())
	says(t, x, m)
}

func TestIndexesOfWrongCounts(t *testing.T) {
	for _, n := range []int{1, 2, 3, 9} {
		r := rawOf(row(n), 1, 10)
		lines := linesOf(parted(row(n), 1))
		for _, count := range []uint64{0, 1, 2, 3, 4, 8, 9, 10, 127, 128, 65535, 65536, 65537, 1 << 31, 1 << 32, 1<<32 + uint64(n), 1 << 63, math.MaxUint64} {
			indexes(t, fmt.Sprint(count, " lines are said, ", n, " are there"), r, indexOf(count, lines...), count == uint64(n))
		}
		indexes(t, "no lines", r, indexOf(0), false)
		indexes(t, "one line fewer", r, indexOf(uint64(n-1), lines[:n-1]...), false)
		more := append(slices.Clone(lines), line{13, "z", 1})
		indexes(t, "one line more", r, indexOf(uint64(n+1), more...), false)
	}
	r := rawOf(row(2), 1, 10)
	indexes(t, "no bytes", r, nil, false)
	indexes(t, "no count", r, indexOf(0)[:0], false)
	// No lines for no blocks.
	corrupt(t, "no blocks", raw{filter: full(), index: indexOf(0), entries: 1}.bytes())
}

func TestTornIndexes(t *testing.T) {
	r := rawOf(various(), 2, 10)
	right := r.index
	for n := range right {
		indexes(t, fmt.Sprint("the first ", n, " bytes"), r, right[:n], false)
		indexes(t, fmt.Sprint("all but the byte ", n), r, slices.Concat(right[:n], right[n+1:]), false)
	}
	for c := range 256 {
		indexes(t, "one byte more", r, append(slices.Clone(right), byte(c)), false)
	}
	indexes(t, "twice", r, slices.Concat(right, right), false)
	indexes(t, "the right one", r, right, true)
}

// TestLengthsInIndexes has a block's length at each of its ends, and a sum that is not where the filter begins.
func TestLengthsInIndexes(t *testing.T) {
	for _, n := range []int{0, 1, 2, 1<<20 - 1, 1 << 20} {
		r := raw{blocks: [][]byte{make([]byte, n)}, filter: full(), entries: 1}
		indexes(t, fmt.Sprint("a frame of ", n+12, " bytes"), r, indexOf(1, line{uint64(n + 12), "a", 1}), n > 0)
		// Such a one behind a sound one, and ahead of one.
		sound := blockOf(list(put("b", 1)))
		size := uint64(len(framed(sound)))
		r.blocks = [][]byte{make([]byte, n), sound}
		indexes(t, fmt.Sprint(n+12, " bytes ahead of others"), r, indexOf(2, line{uint64(n + 12), "a", 1}, line{size, "b", 1}), n > 0)
		r.blocks = [][]byte{sound, make([]byte, n)}
		indexes(t, fmt.Sprint(n+12, " bytes behind others"), r, indexOf(2, line{size, "b", 1}, line{uint64(n + 12), "c", 1}), n > 0)
	}
	// No frame is longer: what stands there is not even one.
	for n, taken := range map[int]bool{1<<20 + 11: true, 1<<20 + 12: true, 1<<20 + 13: false, 1<<20 + 14: false, 1 << 21: false} {
		b := make([]byte, n)
		filter, index := framed(full()), framed(indexOf(1, line{uint64(n), "a", 1}))
		b = footed(slices.Concat(b, filter, index), uint64(n), uint64(n+len(filter)), 1)
		if taken {
			sound(t, fmt.Sprint(n, " bytes"), b)
		} else {
			corrupt(t, fmt.Sprint(n, " bytes"), b)
		}
	}
}

func TestLengthsThatDoNotSumUp(t *testing.T) {
	r := rawOf(row(3), 1, 10)
	right := linesOf(parted(row(3), 1))
	for i := range right {
		for _, size := range []uint64{0, 1, 11, 12, 13, 14, right[i].size - 1, right[i].size, right[i].size + 1, 2 * right[i].size, 1 << 20, 1<<20 + 12, 1<<20 + 13, 1 << 31, 1 << 32, 1<<32 + right[i].size, 1 << 63, math.MaxUint64} {
			lines := slices.Clone(right)
			lines[i].size = size
			indexes(t, fmt.Sprint("the length ", size), r, indexOf(3, lines...), size == right[i].size)
		}
	}
	// A length that is too small, another one that makes up for it: the sum is right, so that it is opened, and the blocks are found wrong when they are read.
	lines := slices.Clone(right)
	lines[0].size, lines[1].size = lines[0].size-1, lines[1].size+1
	r.index = indexOf(3, lines...)
	x, m := sound(t, "two lengths that make up for each other", r.bytes())
	if !slices.Equal(m.broken, []bool{true, true, false}) {
		t.Errorf("broken are %v", m.broken)
	}
	same(t, x, m)
	// The sum is right modulo 2^64, and one of them is not.
	lines = slices.Clone(right)
	lines[0].size, lines[1].size = 1<<63, 1<<63+right[0].size+right[1].size
	indexes(t, "lengths that wrap round", r, indexOf(3, lines...), false)
	lines[0].size, lines[1].size = right[0].size+right[1].size-12, 12
	indexes(t, "one of 12, and the sum is right", r, indexOf(3, lines...), false)
	lines[0].size, lines[1].size = right[0].size+right[1].size-13, 13
	indexes(t, "one of 13, and the sum is right", r, indexOf(3, lines...), true)
	lines[0].size, lines[1].size = right[0].size+right[1].size, 0
	indexes(t, "one of 0, and the sum is right", r, indexOf(3, lines...), false)
}

func TestKeysInIndexes(t *testing.T) {
	r := rawOf(list(put("a", 1)), 1, 10)
	size := linesOf(parted(list(put("a", 1)), 1))[0].size
	for n, taken := range map[int]bool{0: false, 1: true, 2: true, 127: true, 128: true, 511: true, 512: true, 513: false, 514: false, 1000: false} {
		indexes(t, fmt.Sprint("a key of ", n, " bytes"), r, indexOf(1, line{size, long(n), 1}), taken)
	}
	// Lengths that tell more bytes than there are.
	for _, n := range []uint64{2, 3, 127, 128, 512, 513, 1 << 20, 1 << 31, 1 << 62, 1 << 63, math.MaxUint64} {
		index := binary.AppendUvarint([]byte{1, byte(size)}, n)
		indexes(t, "a longer key than there is", r, append(index, 'a', 1), false)
		indexes(t, "a longer key, and no Seq", r, append(index, 'a'), false)
	}
	indexes(t, "the key takes the Seq", r, []byte{1, byte(size), 2, 'a', 1}, false)
}

func TestSeqsInIndexes(t *testing.T) {
	r := rawOf(list(put("a", 1)), 1, 10)
	size := linesOf(parted(list(put("a", 1)), 1))[0].size
	for seq, taken := range map[uint64]bool{0: false, 1: true, 2: true, 127: true, 128: true, 1<<30 - 1: true, 1 << 30: true, 1<<30 + 1: false, 1 << 31: false, 1 << 32: false, 1<<32 + 1: false, 1 << 63: false, math.MaxUint64: false} {
		indexes(t, fmt.Sprint("the Seq ", seq), r, indexOf(1, line{size, "a", seq}), taken)
	}
}

func TestOrderOfLastEntries(t *testing.T) {
	r := rawOf(row(3), 1, 10)
	size := linesOf(parted(row(3), 1))[0].size
	for what, x := range map[string]struct {
		lines []line
		taken bool
	}{
		"rising keys":              {[]line{{size, "a", 5}, {size, "b", 5}, {size, "c", 5}}, true},
		"falling Seqs of one key":  {[]line{{size, "a", 5}, {size, "a", 4}, {size, "a", 3}}, true},
		"rising keys and Seqs":     {[]line{{size, "a", 5}, {size, "aa", 6}, {size, "b", 7}}, true},
		"one key and one Seq":      {[]line{{size, "a", 5}, {size, "a", 5}, {size, "c", 5}}, false},
		"the same at the end":      {[]line{{size, "a", 5}, {size, "b", 5}, {size, "b", 5}}, false},
		"rising Seqs of one key":   {[]line{{size, "a", 5}, {size, "a", 6}, {size, "c", 5}}, false},
		"rising Seqs at the end":   {[]line{{size, "a", 5}, {size, "c", 5}, {size, "c", 6}}, false},
		"falling keys":             {[]line{{size, "b", 5}, {size, "a", 5}, {size, "c", 5}}, false},
		"falling keys at the end":  {[]line{{size, "a", 5}, {size, "c", 5}, {size, "b", 5}}, false},
		"falling keys and Seqs":    {[]line{{size, "b", 5}, {size, "a", 4}, {size, "c", 5}}, false},
		"a beginning behind":       {[]line{{size, "ab", 5}, {size, "a", 4}, {size, "c", 5}}, false},
		"bytes above the letters":  {[]line{{size, "\xfe", 5}, {size, "\xff", 4}, {size, "\xff\x00", 5}}, true},
		"bytes that fall":          {[]line{{size, "\xff", 5}, {size, "\x7f", 5}, {size, "\xff\x00", 5}}, false},
		"the last one is the rest": {[]line{{size, "x", 1 << 30}, {size, "x", 1}, {size, "x\x00", 1}}, true},
	} {
		indexes(t, what, r, indexOf(3, x.lines...), x.taken)
	}
}

func TestNumbersInIndexesThatAreNotWrittenTheShortestWay(t *testing.T) {
	r := rawOf(list(put("a", 1)), 1, 10)
	size := byte(linesOf(parted(list(put("a", 1)), 1))[0].size)
	indexes(t, "the right one", r, []byte{1, size, 1, 'a', 1}, true)
	for what, index := range map[string][]byte{
		"the count":              {129, 0, size, 1, 'a', 1},
		"a longer count":         {129, 128, 0, size, 1, 'a', 1},
		"the frame's length":     {1, size | 128, 0, 1, 'a', 1},
		"the key's length":       {1, size, 129, 0, 'a', 1},
		"the Seq":                {1, size, 1, 'a', 129, 0},
		"a Seq of ten bytes":     {1, size, 1, 'a', 129, 128, 128, 128, 128, 128, 128, 128, 128, 0},
		"a count of no end":      {129},
		"a Seq of no end":        {1, size, 1, 'a', 129},
		"more than 64 bits":      {1, size, 1, 'a', 129, 128, 128, 128, 128, 128, 128, 128, 128, 2},
		"numbers without an end": slices.Repeat([]byte{255}, 40),
	} {
		indexes(t, what, r, index, false)
	}
}

// many are n blocks of 13 bytes each, with an index that says so.
func many(n int) []byte {
	var lines []line
	for i := range n {
		lines = append(lines, line{13, fmt.Sprintf("%05x", i), 1})
	}
	b := make([]byte, 13*n)
	filter, index := framed(full()), framed(indexOf(uint64(n), lines...))
	return footed(slices.Concat(b, filter, index), uint64(len(b)), uint64(len(b)+len(filter)), 65536)
}

func TestAsManyBlocksAsThereMayBe(t *testing.T) {
	for n, taken := range map[int]bool{1: true, 2: true, 65535: true, 65536: true, 65537: false, 65538: false, 70000: false} {
		if !taken {
			corrupt(t, fmt.Sprint(n, " blocks"), many(n))
			continue
		}
		x, m := sound(t, fmt.Sprint(n, " blocks"), many(n))
		says(t, x, m)
		if x.Blocks() != n || x.Len() != 65536 {
			t.Errorf("Blocks %d, Len %d", x.Blocks(), x.Len())
		}
	}
}

// TestFewerEntriesThanBlocks: the number of entries and the blocks are not held against each other.
func TestFewerEntriesThanBlocks(t *testing.T) {
	b, filter, index := rawOf(row(9), 1, 10).body()
	x, m := sound(t, "nine blocks, one entry", footed(b, filter, index, 1))
	if x.Len() != 1 || x.Blocks() != 9 || x.Last() != "k00008" {
		t.Errorf("Len %d, Blocks %d, Last %s", x.Len(), x.Blocks(), x.Last())
	}
	same(t, x, m)
}

// TestLastIsWhatTheIndexSays, whatever the block has.
func TestLastIsWhatTheIndexSays(t *testing.T) {
	r := rawOf(row(4), 2, 10)
	lines := linesOf(parted(row(4), 2))
	lines[1].key = "z"
	r.index = indexOf(2, lines...)
	x, m := sound(t, "another last Key", r.bytes())
	if x.Last() != "z" {
		t.Errorf("Last: %s", x.Last())
	}
	same(t, x, m)
}

// TestWordsStay: Len, Blocks and Last are the same whatever is read.
func TestWordsStay(t *testing.T) {
	l := crowd(40, 2)
	x := table(t, l, 7, 10)
	for range 3 {
		if x.Len() != 40 || x.Blocks() != 6 || x.Last() != l[39].Key {
			t.Errorf("Len %d, Blocks %d, Last %s", x.Len(), x.Blocks(), x.Last())
		}
		x.All()
		x.Get(l[3].Key, l[3].Seq)
	}
}

// TestOpenOfAnyBytes: of bytes of all kinds, with the right checksums or without them, Open is what the chapter's words say.
func TestOpenOfAnyBytes(t *testing.T) {
	r := rand.New(rand.NewPCG(9, 1))
	tables := 0
	for range 20000 {
		l := list(put("a", 1), put("b", 1), put("c", 1))[:1+r.IntN(3)]
		x := rawOf(l, 1+r.IntN(3), 1+r.IntN(16))
		for range r.IntN(3) {
			piece := [][]byte{x.filter, x.index, x.index, x.blocks[0]}[r.IntN(4)]
			piece[r.IntN(len(piece))] = byte(r.IntN(40))
		}
		x.entries += uint64(r.IntN(2))
		b := x.bytes()
		got, e := Open(b)
		m, ok := opened(b)
		if ok != (e == api.OK) || ok != (got != nil) || !ok && e != api.ErrCorrupt {
			t.Fatalf("Open of %v: %v, %d; not %v", b, got != nil, e, ok)
		}
		if ok {
			tables++
			says(t, got, m)
			scans(t, got, m, api.Span{})
			gets(t, got, m, "b", 1)
		}
	}
	if tables < 5000 || tables > 18000 {
		t.Errorf("%d of 20,000 were tables", tables)
	}
}
