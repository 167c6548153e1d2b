package sst

import (
	"fmt"
	"slices"
	"testing"

	"stagepost/api"
)

// These are the tests of P9.4.

// spoilt is a table of three blocks, of which the second one's frame is this one. The index says how long it is, and its last entry.
func spoilt(frame []byte, last api.Entry) []byte {
	r := rawBlocks(three(), full())
	blocks := slices.Concat(framed(r.blocks[0]), frame, framed(r.blocks[2]))
	lines := linesOf(three())
	lines[1] = line{uint64(len(frame)), last.Key, uint64(last.Seq)}
	filter, index := framed(r.filter), framed(indexOf(3, lines...))
	return footed(slices.Concat(blocks, filter, index), uint64(len(blocks)), uint64(len(blocks)+len(filter)), 6)
}

// unread says that the second one of three blocks is ErrCorrupt, and the others are not.
func unread(t *testing.T, what string, b []byte) {
	t.Helper()
	x, m := sound(t, what, b)
	if !slices.Equal(m.broken, []bool{false, true, false}) {
		t.Fatalf("%s: broken are %v", what, m.broken)
	}
	if l, e := x.All(); l != nil || e != api.ErrCorrupt || x.Reads() != 2 {
		t.Errorf("%s: All: %s, %d; Reads %d", what, brief(l), e, x.Reads())
	}
	if e, ok, fault := x.Get("a", 9); e != three()[0][0] || !ok || fault != api.OK || x.Reads() != 3 {
		t.Errorf("%s: Get of a at 9: %s, %v, %d; Reads %d", what, brief(list(e)), ok, fault, x.Reads())
	}
	if l, e := x.Scan(api.Span{From: "c"}); !slices.Equal(l, three()[2][1:]) || e != api.OK || x.Reads() != 4 {
		t.Errorf("%s: Scan from c on: %s, %d; Reads %d", what, brief(l), e, x.Reads())
	}
	m.reads = 4
	same(t, x, m)
}

// TestWhatReadsAnAlteredBlock: each such call answers ErrCorrupt and nothing else, each time, and the block counts as read.
func TestWhatReadsAnAlteredBlock(t *testing.T) {
	r := rawBlocks(three(), full())
	r.blocks[1][3] ^= 1
	x, _ := sound(t, "an altered block", r.bytes())
	reads := 0
	for range 2 {
		for what, seq := range map[string]int{"b": 9, "a": 2, "aa": 7} {
			got, ok, e := x.Get(what, seq)
			if reads++; got != (api.Entry{}) || ok || e != api.ErrCorrupt || x.Reads() != reads {
				t.Errorf("Get of %s at %d: %s, %v, %d; Reads %d, not %d", what, seq, brief(list(got)), ok, e, x.Reads(), reads)
			}
		}
		for _, s := range []api.Span{{From: "b"}, {From: "b", To: "b\x00"}, {From: "aa", To: "a"}} {
			l, e := x.Scan(s)
			if reads++; l != nil || e != api.ErrCorrupt || x.Reads() != reads {
				t.Errorf("Scan of %q: %s, %d; Reads %d, not %d", s, brief(l), e, x.Reads(), reads)
			}
		}
		l, e := x.All()
		if reads += 2; l != nil || e != api.ErrCorrupt || x.Reads() != reads {
			t.Errorf("All: %s, %d; Reads %d, not %d", brief(l), e, x.Reads(), reads)
		}
	}
}

func TestSoundBlocks(t *testing.T) {
	l := three()[1]
	x, m := sound(t, "the right one", spoilt(framed(blockOf(l)), l[1]))
	if slices.Contains(m.broken, true) {
		t.Fatalf("broken are %v", m.broken)
	}
	same(t, x, m)
	// The index knows of the last entry the Key and the Seq alone.
	other := list(l[0], put("b", 7))
	x, m = sound(t, "another value", spoilt(framed(blockOf(other)), l[1]))
	same(t, x, m)
	if got, ok, e := x.Get("b", 7); got != other[1] || !ok || e != api.OK {
		t.Errorf("Get of b at 7: %s, %v, %d", brief(list(got)), ok, e)
	}
}

func TestFramesThatAreAltered(t *testing.T) {
	l := three()[1]
	right := framed(blockOf(l))
	for i := range 8 * len(right) {
		turned := slices.Clone(right)
		turned[i/8] ^= 1 << (i % 8)
		unread(t, fmt.Sprint("the bit ", i, " turned"), spoilt(turned, l[1]))
	}
	unread(t, "no frame", spoilt(make([]byte, len(right)), l[1]))
	unread(t, "a block without a frame", spoilt(append(blockOf(l), make([]byte, 12)...), l[1]))
}

// TestFramesOfAnotherLength: a sound frame that is shorter or longer than the index says.
func TestFramesOfAnotherLength(t *testing.T) {
	l := three()[1]
	right := framed(blockOf(l))
	unread(t, "one byte behind it", spoilt(append(slices.Clone(right), 0), l[1]))
	unread(t, "a frame behind it", spoilt(slices.Concat(right, framed(nil)), l[1]))
	unread(t, "the block twice", spoilt(slices.Concat(right, right), l[1]))
	unread(t, "one byte ahead of it", spoilt(append([]byte{0}, right...), l[1]))
	for n := 13; n < len(right); n++ {
		unread(t, fmt.Sprint("its first ", n, " bytes"), spoilt(right[:n], l[1]))
	}
	// The frame goes on into the next block's bytes: the index says where that one begins.
	r := rawBlocks(three(), full())
	lines := linesOf(three())
	lines[0].size++
	lines[1].size--
	r.index = indexOf(3, lines...)
	x, m := sound(t, "lengths that are moved", r.bytes())
	if !slices.Equal(m.broken, []bool{true, true, false}) {
		t.Errorf("broken are %v", m.broken)
	}
	same(t, x, m)
	// Two blocks that the index takes for one.
	r = rawBlocks(three(), full())
	lines = linesOf(three())
	r.index = indexOf(2, line{lines[0].size + lines[1].size, "b", 7}, lines[2])
	x, m = sound(t, "two blocks as one", r.bytes())
	if !slices.Equal(m.broken, []bool{true, false}) {
		t.Errorf("broken are %v", m.broken)
	}
	same(t, x, m)
	r.index = indexOf(2, line{lines[0].size + lines[1].size, "a", 3}, lines[2])
	x, m = sound(t, "two blocks as one, with the first one's last entry", r.bytes())
	if !slices.Equal(m.broken, []bool{true, false}) {
		t.Errorf("broken are %v", m.broken)
	}
	same(t, x, m)
}

// TestRecordsThatAreNoBlocks have the right checksums.
func TestRecordsThatAreNoBlocks(t *testing.T) {
	l := three()[1]
	right := blockOf(l)
	var crowded []api.Entry
	for i := range 65 {
		crowded = append(crowded, del("b", 71-i))
	}
	for what, record := range map[string][]byte{
		"a byte":                 {7},
		"no entries":             {0},
		"a byte behind it":       append(slices.Clone(right), 0),
		"without its last byte":  right[:len(right)-1],
		"a longer count":         append([]byte{3}, right[1:]...),
		"a number's longer form": append([]byte{130, 0}, right[1:]...),
		"entries out of order":   blockOf(list(put("c", 1), l[1])),
		"the same one twice":     blockOf(list(l[1], l[1])),
		"an empty key":           blockOf(list(put("", 1), l[1])),
		"a Seq 0":                blockOf(list(put("a", 0), l[1])),
		"a value of 4,097 bytes": blockOf(list(api.Entry{Key: "a", Value: long(4097), Seq: 5}, l[1])),
		"65 entries":             blockOf(crowded),
		"2^20 bytes":             make([]byte, 1<<20),
		"an index":               indexOf(3, linesOf(three())...),
		"a filter":               full(),
	} {
		unread(t, what, spoilt(framed(record), l[1]))
	}
	// 64 entries are a block, also where there are fewer in the others.
	x, m := sound(t, "64 entries", spoilt(framed(blockOf(crowded[1:])), crowded[64]))
	if slices.Contains(m.broken, true) {
		t.Errorf("broken are %v", m.broken)
	}
	same(t, x, m)
}

// TestLastEntriesThatAreOthers: the block is sound, and not the one of which the index speaks.
func TestLastEntriesThatAreOthers(t *testing.T) {
	l := three()[1]
	for _, last := range list(put("b", 6), put("b", 8), put("b", 3), put("b", 9), put("b", 2+1<<8), put("b\x00", 7), put("aa", 7), put("ab", 7), put("a", 1), put("a\x00", 7), put("b", 7+1<<20)) {
		unread(t, brief(list(last)), spoilt(framed(blockOf(l)), last))
	}
	// The first entry, not the last one, is what the index says.
	unread(t, "its first one", spoilt(framed(blockOf(l)), l[0]))
	unread(t, "one fewer", spoilt(framed(blockOf(l[:1])), l[1]))
	unread(t, "one more", spoilt(framed(blockOf(append(slices.Clone(l), put("b", 5)))), l[1]))
	unread(t, "the block ahead", spoilt(framed(blockOf(three()[0])), l[1]))
	unread(t, "the block behind", spoilt(framed(blockOf(three()[2])), l[1]))
	// Two sound blocks that changed places.
	r := rawBlocks(three(), full())
	r.blocks[0], r.blocks[2] = r.blocks[2], r.blocks[0]
	lines := linesOf(three())
	lines[0].size, lines[2].size = lines[2].size, lines[0].size
	r.index = indexOf(3, lines...)
	x, m := sound(t, "an exchange", r.bytes())
	if !slices.Equal(m.broken, []bool{true, false, true}) {
		t.Errorf("broken are %v", m.broken)
	}
	same(t, x, m)
}

// TestEachSetOfAlteredBlocks: of five blocks each choice is altered, and all is asked.
func TestEachSetOfAlteredBlocks(t *testing.T) {
	l := slices.Concat(list(put("a", 3)), versions("b", 4), list(put("c", 2), put("d", 7), put("d", 1), put("f", 1)))
	for choice := range 32 {
		for _, filter := range [][]byte{full(), filterOf(l, 10)} {
			r := rawBlocks(parted(l, 2), filter)
			b := r.bytes()
			at := 0
			for i, x := range r.blocks {
				if choice>>i&1 == 1 {
					b[at+8+choice%len(x)] ^= 4
				}
				at += len(framed(x))
			}
			x, m := sound(t, "some altered", b)
			for i := range 5 {
				if m.broken[i] != (choice>>i&1 == 1) {
					t.Fatalf("broken are %v, not %b", m.broken, choice)
				}
			}
			same(t, x, m)
		}
	}
}

// TestReads counts each block as often as it is read.
func TestReads(t *testing.T) {
	l := row(10)
	x := table(t, l, 3, 16)
	want := 0
	reads := func(what string, n int) {
		t.Helper()
		want += n
		for range 2 { // to ask how many is no read
			if x.Reads() != want {
				t.Errorf("%s: Reads %d, not %d", what, x.Reads(), want)
			}
		}
	}
	reads("Open", 0)
	for range 3 {
		x.Get("k00004", 5)
		reads("the same again", 1)
	}
	x.Get("k00004", 4)
	reads("a version that is not there", 1)
	x.Get("k00009", 4)
	reads("behind the last entry", 0)
	x.All()
	reads("All", 4)
	x.All()
	reads("All again", 4)
	x.Scan(api.Span{From: "k00003", To: "k00005"})
	reads("a span within a block", 1)
	x.Scan(api.Span{From: "k00003", To: "k00005\x00"})
	reads("a span up to behind its end", 2)
	x.Scan(api.Span{From: "k00002", To: "k00003"})
	reads("a span from a block's end on", 2)
	x.Scan(api.Span{From: "l"})
	reads("a span behind all", 0)
	x.Len()
	x.Blocks()
	x.Last()
	reads("Len, Blocks, Last", 0)
	// Another table over the same bytes counts for itself.
	y := table(t, l, 3, 16)
	y.All()
	reads("another table", 0)
	if y.Reads() != 4 {
		t.Errorf("Reads of the other one %d", y.Reads())
	}
}
