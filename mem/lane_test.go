package mem

import (
	"fmt"
	"math"
	"slices"
	"testing"

	"stagepost/api"
)

// These are the tests of P6.4.

// row are n entries, rising.
func row(n int) []api.Entry {
	var l []api.Entry
	for i := range n {
		l = append(l, put(fmt.Sprintf("k%04d", i), 5))
	}
	return l
}

func TestLaneOfNoLane(t *testing.T) {
	m := holding(t, []int{12}, row(3)...)
	for _, h := range []int{math.MinInt, -12, -1, 0, 13, 14, 1 << 32, 1<<32 + 1, math.MaxInt} {
		if got := m.Lane(h); got != nil {
			t.Errorf("Lane(%d): %v", h, got)
		}
	}
	for h := 1; h <= 12; h++ {
		lane(t, m, h, 0, 1, 2)
	}
}

func TestLanesOfAnEmptyTable(t *testing.T) {
	m := fresh(t, 12)
	for h := -1; h <= 14; h++ {
		lane(t, m, h)
	}
}

func TestLanesWithoutHeights(t *testing.T) {
	m := holding(t, nil, mixed(row(20), 3)...)
	lane(t, m, 1, places(20)...)
	for h := 2; h <= 12; h++ {
		lane(t, m, h)
	}
}

// TestFewerHeightsThanEntries: the heights come round again.
func TestFewerHeightsThanEntries(t *testing.T) {
	m := holding(t, []int{1, 12, 2}, row(8)...)
	lane(t, m, 1, 0, 1, 2, 3, 4, 5, 6, 7)
	lane(t, m, 2, 1, 2, 4, 5, 7)
	for h := 3; h <= 12; h++ {
		lane(t, m, h, 1, 4, 7)
	}
}

// TestMoreHeightsThanEntries: those that are left over mean nothing.
func TestMoreHeightsThanEntries(t *testing.T) {
	m := holding(t, []int{1, 3, 2, 12, 12, 12}, row(3)...)
	lane(t, m, 1, 0, 1, 2)
	lane(t, m, 2, 1, 2)
	lane(t, m, 3, 1)
	lane(t, m, 4)
	lane(t, m, 12)
}

// TestTowersAreOfTheOrderOfAdding: the first that is added has the first height, wherever it stands.
func TestTowersAreOfTheOrderOfAdding(t *testing.T) {
	heights := []int{1, 2, 3, 4, 5}
	m := holding(t, heights, turned(row(5))...)
	lane(t, m, 1, 0, 1, 2, 3, 4)
	lane(t, m, 2, 0, 1, 2, 3)
	lane(t, m, 3, 0, 1, 2)
	lane(t, m, 4, 0, 1)
	lane(t, m, 5, 0)
	m = holding(t, heights, row(5)...)
	lane(t, m, 2, 1, 2, 3, 4)
	lane(t, m, 5, 4)
	// The versions of a key have a tower each.
	m = holding(t, []int{4, 1, 2}, versions("k", 1, 1, 3)...)
	lane(t, m, 1, 0, 1, 2)
	lane(t, m, 2, 0, 2)
	lane(t, m, 3, 2)
}

func TestCostOfNothing(t *testing.T) {
	m := fresh(t, 12)
	for _, key := range []string{"", "a", long(600)} {
		for _, seq := range []int{math.MinInt, 0, 1, math.MaxInt} {
			costs(t, m, key, seq, 0)
		}
	}
}

// TestCostInOneLane looks at all that are ahead, and at the one behind them.
func TestCostInOneLane(t *testing.T) {
	for _, heights := range [][]int{nil, {1}} {
		m := holding(t, heights, mixed(row(30), 4)...)
		costs(t, m, "", 0, 1)
		costs(t, m, "a", 5, 1)
		for i, e := range row(30) {
			costs(t, m, e.Key, 5, i+1)
			costs(t, m, e.Key, 6, i+1)
			costs(t, m, e.Key, math.MaxInt, i+1)
			// An entry with a lower Seq stands behind that one.
			costs(t, m, e.Key, 4, min(i+2, 30))
			costs(t, m, e.Key, math.MinInt, min(i+2, 30))
			costs(t, m, e.Key+"\x00", 5, min(i+2, 30))
		}
		costs(t, m, "z", 5, 30)
		costs(t, m, long(600), 5, 30)
	}
}

// TestCostInAllLanes: the last entry costs the most that there may be but one.
func TestCostInAllLanes(t *testing.T) {
	m := holding(t, []int{12}, row(30)...)
	costs(t, m, "", 0, 12)
	for i, e := range row(30) {
		costs(t, m, e.Key, 5, i+12)
	}
	costs(t, m, "z", 5, 30)
}

func TestCostOfOneEntry(t *testing.T) {
	for h := 1; h <= 12; h++ {
		m := holding(t, []int{h}, put("m", 5))
		costs(t, m, "m", 5, h)
		costs(t, m, "m", 6, h)
		costs(t, m, "a", 5, h)
		costs(t, m, "", 0, h)
		costs(t, m, "m", 4, 1)
		costs(t, m, "m\x00", 5, 1)
		costs(t, m, "z", 5, 1)
	}
}

// TestCostByHand: the lanes 3, 2 and 1 of a to h have (d), (b, d, f), and all.
func TestCostByHand(t *testing.T) {
	m := holding(t, []int{1, 2, 1, 3, 1, 2, 1, 1}, put("a", 5), put("b", 5), put("c", 5), put("d", 5), put("e", 5), put("f", 5), put("g", 5), put("h", 5))
	for key, want := range map[string]int{
		"":  3, // d, b, a
		"a": 3, // d, b, a
		"b": 4, // d, b, a b
		"c": 4, // d, b d, c
		"d": 5, // d, b d, c d
		"e": 3, // d, f, e
		"f": 4, // d, f, e f
		"g": 3, // d, f, g
		"h": 4, // d, f, g h
		"i": 4, // d, f, g h
	} {
		costs(t, m, key, 5, want)
	}
	costs(t, m, "d", 4, 3) // d, f, e
	costs(t, m, "h", 4, 4) // d, f, g h
}

// TestCostHangsOnWhatIsThere: entries that are added change what it costs.
func TestCostHangsOnWhatIsThere(t *testing.T) {
	m := fresh(t, 1, 12)
	for i, want := range []int{0, 1, 13, 2, 14, 3} {
		costs(t, m, "z", 5, []int{0, 1, 1, 2, 2, 3}[i])
		costs(t, m, fmt.Sprintf("k%04d", i-1), 5, want)
		adds(t, m, row(6)[i])
	}
}

func TestCostAsTheModel(t *testing.T) {
	for seed, heights := range shapes() {
		l := mixed(append(row(40), versions("k0007", 1, 1, 4)...), uint64(seed))
		m, want := holding(t, heights, l...), &model{heights: heights, added: l}
		for _, e := range append(slices.Clone(l), put("a", 1), put("z", 1), put("k0007", 9), put("k0030", 4), put("k00305", 5)) {
			costs(t, m, e.Key, e.Seq, want.Cost(e.Key, e.Seq))
		}
	}
}

// TestAskingChangesNothing: neither lanes nor what they cost are other ones behind it.
func TestAskingChangesNothing(t *testing.T) {
	m := holding(t, []int{2, 1, 3}, various()...)
	was := tell(m)
	for range 3 {
		if now := tell(m); now != was {
			t.Fatalf("asked again it tells\n%s\nnot\n%s", now, was)
		}
	}
	adds(t, m, put("last", 1))
	is(t, m, &model{heights: []int{2, 1, 3}, added: append(various(), put("last", 1))})
}
