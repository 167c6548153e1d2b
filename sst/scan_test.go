package sst

import (
	"fmt"
	"slices"
	"testing"

	"stagepost/api"
)

// These are the tests of what P9.3 says of Scan and All.

// spans are what is asked of the three blocks by Scan, how many entries from which place on it answers, and how many blocks from which one on it reads.
func spans() []struct {
	from, to    string
	at, n       int
	first, read int
} {
	return []struct {
		from, to    string
		at, n       int
		first, read int
	}{
		// All keys.
		{"", "", 0, 6, 0, 3}, {"a", "", 0, 6, 0, 3}, {"A", "", 0, 6, 0, 3}, {"", "e", 0, 6, 0, 3}, {"", "\xff", 0, 6, 0, 3}, {"a", "d\x00", 0, 6, 0, 3},
		// To a block's last key, and beside it.
		{"", "a", 0, 0, 0, 1}, {"", "a\x00", 0, 2, 0, 2}, {"", "b", 0, 2, 0, 2}, {"", "b\x00", 0, 5, 0, 3}, {"", "c", 0, 5, 0, 3}, {"", "d", 0, 5, 0, 3},
		// From a block's last key on, and beside it.
		{"a\x00", "", 2, 4, 1, 2}, {"b", "", 2, 4, 1, 2}, {"b\x00", "", 5, 1, 2, 1}, {"c", "", 5, 1, 2, 1}, {"d", "", 5, 1, 2, 1},
		// One key, in one block, in two, in none.
		{"a", "a\x00", 0, 2, 0, 2}, {"b", "b\x00", 2, 3, 1, 2}, {"c", "c\x00", 5, 0, 2, 1}, {"d", "d\x00", 5, 1, 2, 1}, {"a", "b", 0, 2, 0, 2}, {"b", "c", 2, 3, 1, 2},
		// Ahead of all, and behind all.
		{"", "A", 0, 0, 0, 1}, {"", "\x00", 0, 0, 0, 1}, {"A", "B", 0, 0, 0, 1}, {"d\x00", "", 6, 0, 3, 0}, {"e", "", 6, 0, 3, 0}, {"e", "f", 6, 0, 3, 0}, {"\xff", "", 6, 0, 3, 0}, {long(600), long(700), 6, 0, 3, 0},
		// No keys: To is not above From. The block where From would stand is read all the same.
		{"a", "a", 0, 0, 0, 1}, {"b", "b", 2, 0, 1, 1}, {"b", "a", 2, 0, 1, 1}, {"c", "c", 5, 0, 2, 1}, {"d", "a", 5, 0, 2, 1}, {"d", "d", 5, 0, 2, 1}, {"aa", "a", 2, 0, 1, 1}, {"e", "a", 6, 0, 3, 0}, {"e", "e", 6, 0, 3, 0},
	}
}

func TestScanOfThreeBlocks(t *testing.T) {
	x := table(t, slices.Concat(three()...), 2, 10)
	all := slices.Concat(three()...)
	reads := 0
	for _, s := range spans() {
		want := all[s.at : s.at+s.n]
		reads += s.read
		if got, e := x.Scan(api.Span{From: s.from, To: s.to}); !slices.Equal(got, want) || e != api.OK || x.Reads() != reads {
			t.Errorf("Scan from %s to %s: %s, %d, Reads %d; not %s, Reads %d", short(s.from), short(s.to), brief(got), e, x.Reads(), brief(want), reads)
		}
	}
}

// TestWhichBlocksScanReads alters one block: the call tells whether it read that one, and it reads none behind it.
func TestWhichBlocksScanReads(t *testing.T) {
	for block := range 3 {
		r := rawBlocks(three(), full())
		r.blocks[block][2] ^= 16
		for _, s := range spans() {
			x, _ := sound(t, "one altered", r.bytes())
			want, reads := api.OK, s.read
			if s.first <= block && block < s.first+s.read {
				want, reads = api.ErrCorrupt, block-s.first+1
			}
			got, e := x.Scan(api.Span{From: s.from, To: s.to})
			answers(t, fmt.Sprint("the block ", block, " altered: Scan from ", short(s.from), " to ", short(s.to)), e, want)
			if x.Reads() != reads || want != api.OK && got != nil {
				t.Errorf("the block %d altered: Scan from %s to %s: %s, Reads %d, not %d", block, short(s.from), short(s.to), brief(got), x.Reads(), reads)
			}
		}
	}
}

// TestScanAsksNoFilter: all keys in the span are told, whatever the filter has.
func TestScanAsksNoFilter(t *testing.T) {
	x, _ := sound(t, "a filter of nothing", rawBlocks(three(), []byte{1, 0}).bytes())
	if l, e := x.Scan(api.Span{From: "a", To: "c"}); len(l) != 5 || e != api.OK {
		t.Errorf("Scan: %s, %d", brief(l), e)
	}
	if l, e := x.All(); !slices.Equal(l, slices.Concat(three()...)) || e != api.OK {
		t.Errorf("All: %s, %d", brief(l), e)
	}
}

func TestAll(t *testing.T) {
	for what, l := range samples() {
		for _, shape := range shapes() {
			x := table(t, l, shape[0], shape[1])
			for i := range 3 {
				got, e := x.All()
				if !slices.Equal(got, l) || e != api.OK || x.Reads() != (i+1)*x.Blocks() {
					t.Errorf("%s: All: %s, %d; Reads %d", what, brief(got), e, x.Reads())
				}
			}
		}
	}
}

// TestScanTellsDeletesAndAllVersions: nothing is folded, nothing is hidden.
func TestScanTellsDeletesAndAllVersions(t *testing.T) {
	l := list(del("a", 9), put("a", 7), del("a", 2), del("b", 1), put("c", 4), put("c", 3))
	for per := 1; per <= 7; per++ {
		x := table(t, l, per, 10)
		if got, e := x.Scan(api.Span{From: "a", To: "c"}); !slices.Equal(got, l[:4]) || e != api.OK {
			t.Errorf("per %d: Scan: %s, %d", per, brief(got), e)
		}
	}
}

// TestBlocksThatAreNotInOrder: Open holds the last entries alone against each other, so that what stands in two blocks may overlap. Each call goes by the blocks that the words name, and tells what these have.
func TestBlocksThatAreNotInOrder(t *testing.T) {
	for what, blocks := range map[string][][]api.Entry{
		"the second begins ahead of the first": {list(put("c", 5), put("d", 5)), list(put("a", 5), put("e", 5))},
		"one entry in both":                    {list(put("a", 5), put("c", 5)), list(put("a", 5), put("d", 5))},
		"a later version behind":               {list(put("b", 5)), list(put("b", 9), put("b", 3))},
		"one ahead of all in the last one":     {list(put("b", 5)), list(put("c", 5)), list(put("a", 1), put("d", 5))},
	} {
		x, m := sound(t, what, rawBlocks(blocks, full()).bytes())
		same(t, x, m)
	}
}
