package sst

import (
	"fmt"
	"math"
	"slices"
	"testing"

	"stagepost/api"
)

// These are the tests of what P9.3 says of Get.

// three are blocks of which the second key is in two of them: (a, 5) (a, 3); (b, 9) (b, 7); (b, 2) (d, 4).
func three() [][]api.Entry {
	return parted(list(put("a", 5), put("a", 3), put("b", 9), del("b", 7), put("b", 2), put("d", 4)), 2)
}

// ask is what is asked by Get, what it answers (none, if the Seq is 0), and which block it reads (-1: none).
type ask struct {
	key  string
	seq  int
	want int
	read int
}

// asks are written out, for a filter that has all keys.
func asks() []ask {
	return []ask{
		// Ahead of the first entry.
		{"", 0, 0, 0}, {"", math.MaxInt, 0, 0}, {"A", 5, 0, 0}, {"\x00", 5, 0, 0}, {"`zzz", math.MinInt, 0, 0},
		// The first key, at each number.
		{"a", math.MaxInt, 5, 0}, {"a", 1 << 30, 5, 0}, {"a", 6, 5, 0}, {"a", 5, 5, 0}, {"a", 4, 3, 0}, {"a", 3, 3, 0},
		// Behind its last version: the next entry stands in the next block.
		{"a", 2, 0, 1}, {"a", 1, 0, 1}, {"a", 0, 0, 1}, {"a", -1, 0, 1}, {"a", math.MinInt, 0, 1},
		// Between two blocks.
		{"a\x00", 5, 0, 1}, {"aa", 0, 0, 1}, {"az", math.MaxInt, 0, 1},
		// A key with versions in two blocks.
		{"b", math.MaxInt, 9, 1}, {"b", 10, 9, 1}, {"b", 9, 9, 1}, {"b", 8, 7, 1}, {"b", 7, 7, 1},
		{"b", 6, 2, 2}, {"b", 3, 2, 2}, {"b", 2, 2, 2},
		{"b", 1, 0, 2}, {"b", 0, 0, 2}, {"b", -5, 0, 2}, {"b", math.MinInt, 0, 2},
		// Between two entries of one block.
		{"b\x00", 3, 0, 2}, {"c", 0, 0, 2}, {"c", 4, 0, 2}, {"c", math.MaxInt, 0, 2},
		// The last key, and what is behind the last entry.
		{"d", math.MaxInt, 4, 2}, {"d", 5, 4, 2}, {"d", 4, 4, 2},
		{"d", 3, 0, -1}, {"d", 0, 0, -1}, {"d", math.MinInt, 0, -1}, {"d\x00", 9, 0, -1}, {"d\x00", math.MaxInt, 0, -1}, {"e", 4, 0, -1}, {"\xff", math.MaxInt, 0, -1}, {long(600), 4, 0, -1},
	}
}

func TestGetInThreeBlocks(t *testing.T) {
	x, _ := sound(t, "three blocks", rawBlocks(three(), full()).bytes())
	all := slices.Concat(three()...)
	reads := 0
	for _, a := range asks() {
		var want api.Entry
		for _, e := range all {
			if e.Key == a.key && e.Seq == a.want {
				want = e
			}
		}
		if a.read >= 0 {
			reads++
		}
		got, ok, e := x.Get(a.key, a.seq)
		if got != want || ok != (a.want > 0) || e != api.OK || x.Reads() != reads {
			t.Errorf("Get of %s at %d: %s, %v, %d, Reads %d; not %s, Reads %d", short(a.key), a.seq, brief(list(got)), ok, e, x.Reads(), brief(list(want)), reads)
		}
	}
}

// TestWhichBlockGetReads alters all blocks but one, and that one alone: the call tells which one it read.
func TestWhichBlockGetReads(t *testing.T) {
	for block := range 3 {
		alone, others := rawBlocks(three(), full()), rawBlocks(three(), full())
		for i := range 3 {
			if i == block {
				alone.blocks[i][1] ^= 1
			} else {
				others.blocks[i][1] ^= 1
			}
		}
		x, _ := sound(t, "one altered", alone.bytes())
		y, _ := sound(t, "all others altered", others.bytes())
		for _, a := range asks() {
			want, other := api.OK, api.OK
			if a.read == block {
				want = api.ErrCorrupt
			} else if a.read >= 0 {
				other = api.ErrCorrupt
			}
			_, _, e := x.Get(a.key, a.seq)
			answers(t, fmt.Sprint("the block ", block, " altered: Get of ", short(a.key), " at ", a.seq), e, want)
			_, _, e = y.Get(a.key, a.seq)
			answers(t, fmt.Sprint("all but ", block, " altered: Get of ", short(a.key), " at ", a.seq), e, other)
		}
	}
}

// TestFilterSparesReads: with a filter that has no key nothing is read, whatever is there.
func TestFilterSparesReads(t *testing.T) {
	x, _ := sound(t, "a filter of nothing", rawBlocks(three(), []byte{1, 0}).bytes())
	for _, a := range asks() {
		if got, ok, e := x.Get(a.key, a.seq); got != (api.Entry{}) || ok || e != api.OK || x.Reads() != 0 {
			t.Errorf("Get of %s at %d: %s, %v, %d; Reads %d", short(a.key), a.seq, brief(list(got)), ok, e, x.Reads())
		}
	}
	// Nor is it, if the blocks are altered.
	r := rawBlocks(three(), []byte{1, 0})
	r.blocks[1][0] ^= 8
	x, _ = sound(t, "a filter of nothing over an altered block", r.bytes())
	if _, ok, e := x.Get("b", 9); ok || e != api.OK || x.Reads() != 0 {
		t.Errorf("Get of b at 9: %v, %d; Reads %d", ok, e, x.Reads())
	}
}

// TestGetOfTheGreatestNumbers: entries at the ends of all Seqs, asked beyond them.
func TestGetOfTheGreatestNumbers(t *testing.T) {
	l := list(put("a", 1<<30), put("a", 1), put("b", 1<<30))
	for _, per := range []int{1, 2, 3} {
		x, m := table(t, l, per, 10), modelled(l, per, 10)
		same(t, x, m)
		for seq, want := range map[int]api.Entry{math.MaxInt: l[0], 1<<30 + 1: l[0], 1 << 30: l[0], 1<<30 - 1: l[1], 1: l[1], 0: {}, -1: {}, math.MinInt: {}} {
			if got, ok, e := x.Get("a", seq); got != want || ok != (want.Key != "") || e != api.OK {
				t.Errorf("per %d: Get of a at %d: %s, %v, %d", per, seq, brief(list(got)), ok, e)
			}
		}
	}
}

// TestVersionsInManyBlocks: one key, of which each block has a part, and blocks that end or begin with it.
func TestVersionsInManyBlocks(t *testing.T) {
	l := slices.Concat(list(put("j", 9), put("j", 8)), versions("k", 10), list(put("l", 3)))
	for per := 1; per <= 13; per++ {
		for seq := range 24 {
			x := table(t, l, per, 10)
			want, there := api.Entry{}, seq >= 2
			if there {
				want = put("k", min(seq/2*2, 20))
			}
			if got, ok, e := x.Get("k", seq); got != want || ok != there || e != api.OK || x.Reads() != 1 {
				t.Errorf("per %d: Get of k at %d: %s, %v, %d; Reads %d", per, seq, brief(list(got)), ok, e, x.Reads())
			}
		}
	}
}

func TestTablesOfAllKinds(t *testing.T) {
	for what, l := range samples() {
		for _, shape := range shapes() {
			x, m := sound(t, what, built(t, l, shape[0], shape[1]))
			if len(m.blocks) != len(parted(l, shape[0])) || !slices.Equal(slices.Concat(m.blocks...), l) || slices.Contains(m.broken, true) {
				t.Fatalf("%s, %v: the bytes say another table", what, shape)
			}
			same(t, x, m)
			x, m = sound(t, what, rawBlocks(parted(l, shape[0]), full()).bytes())
			same(t, x, m)
		}
	}
}
