package block

import (
	"math"
	"math/rand/v2"
	"slices"
	"testing"

	"stagepost/api"
)

// These are the tests of P7.4.

// keeps are lists of Seqs for a list of entries: none, each alone, several in several orders, some twice, and such as no entry has.
func keeps(l []api.Entry) [][]int {
	all := seqs(l)
	out := [][]int{nil, {}, all, {0}, {-1, 0}, {math.MaxInt}, {math.MinInt}, {1 << 30}, {1 << 30, 1 << 30}, {math.MaxInt, 3, math.MinInt, 3}}
	turned := slices.Clone(all)
	slices.Reverse(turned)
	out = append(out, turned, append(turned, all...))
	r := rand.New(rand.NewPCG(uint64(len(l)), 9))
	for range 20 {
		var keep []int
		for range 1 + r.IntN(4) {
			keep = append(keep, all[r.IntN(len(all))])
		}
		out = append(out, keep)
	}
	return out
}

// fold says what Fold answers, without last and with it.
func fold(t testing.TB, l []api.Entry, keep []int, want, wantLast []api.Entry) {
	t.Helper()
	for last, want := range map[bool][]api.Entry{false: want, true: wantLast} {
		if got := Fold(l, keep, last); !slices.Equal(got, want) {
			t.Errorf("Fold of %s, keep %v, last %v: %s; not %s", brief(l), keep, last, brief(got), brief(want))
		}
		folds(t, l, keep, last)
	}
}

func TestFoldOfAll(t *testing.T) {
	for _, l := range samples() {
		for _, keep := range keeps(l) {
			folds(t, l, keep, false)
			folds(t, l, keep, true)
		}
	}
}

func TestFoldOfNothing(t *testing.T) {
	for _, l := range lists(nil, list(), make([]api.Entry, 0, 3)) {
		fold(t, l, nil, nil, nil)
		fold(t, l, []int{1, 2, 3}, nil, nil)
	}
}

// TestFoldOfPuts: of a key the latest, and what is kept.
func TestFoldOfPuts(t *testing.T) {
	l := list(put("a", 9), put("a", 6), put("a", 3), put("b", 4), put("b", 2))
	a9, a6, a3, b4, b2 := l[0], l[1], l[2], l[3], l[4]
	for _, x := range []struct {
		keep []int
		want []api.Entry
	}{
		{nil, list(a9, b4)},
		{[]int{0}, list(a9, b4)},
		{[]int{1}, list(a9, b4)},
		{[]int{-5}, list(a9, b4)},
		{[]int{2}, list(a9, b4, b2)},
		{[]int{3}, list(a9, a3, b4, b2)},
		{[]int{4}, list(a9, a3, b4)},
		{[]int{5}, list(a9, a3, b4)},
		{[]int{6}, list(a9, a6, b4)},
		{[]int{8}, list(a9, a6, b4)},
		{[]int{9}, list(a9, b4)},
		{[]int{10}, list(a9, b4)},
		{[]int{1 << 30}, list(a9, b4)},
		{[]int{math.MaxInt}, list(a9, b4)},
		{[]int{math.MinInt}, list(a9, b4)},
		{[]int{7, 5}, list(a9, a6, a3, b4)},
		{[]int{5, 7}, list(a9, a6, a3, b4)},
		{[]int{8, 2, 5}, list(a9, a6, a3, b4, b2)},
		{[]int{2, 8, 5, 2, 8}, list(a9, a6, a3, b4, b2)},
		{[]int{7, 7}, list(a9, a6, b4)},
		{[]int{6, 7, 8}, list(a9, a6, b4)},
	} {
		fold(t, l, x.keep, x.want, x.want)
	}
}

// TestFoldOfDeletesBelowPuts: with last those below the oldest put go.
func TestFoldOfDeletesBelowPuts(t *testing.T) {
	l := list(put("a", 9), del("a", 7), del("a", 5), put("a", 3), del("a", 1))
	a9, a7, a5, a3, a1 := l[0], l[1], l[2], l[3], l[4]
	fold(t, l, nil, list(a9), list(a9))
	fold(t, l, []int{8}, list(a9, a7), list(a9))
	fold(t, l, []int{6}, list(a9, a5), list(a9))
	fold(t, l, []int{6, 8}, list(a9, a7, a5), list(a9))
	fold(t, l, []int{3}, list(a9, a3), list(a9, a3))
	fold(t, l, []int{3, 8}, list(a9, a7, a3), list(a9, a7, a3))
	fold(t, l, []int{8, 6, 3}, list(a9, a7, a5, a3), list(a9, a7, a5, a3))
	fold(t, l, []int{1}, list(a9, a1), list(a9))
	fold(t, l, []int{1, 3}, list(a9, a3, a1), list(a9, a3))
	fold(t, l, []int{1, 6}, list(a9, a5, a1), list(a9))
	fold(t, l, []int{8, 6, 3, 1}, l, list(a9, a7, a5, a3))
}

func TestFoldOfADeleteAbovePuts(t *testing.T) {
	l := list(del("a", 9), put("a", 7), del("a", 5), put("a", 3))
	a9, a7, a5, a3 := l[0], l[1], l[2], l[3]
	fold(t, l, nil, list(a9), nil)
	fold(t, l, []int{9}, list(a9), nil)
	fold(t, l, []int{8}, list(a9, a7), list(a9, a7))
	fold(t, l, []int{6}, list(a9, a5), nil)
	fold(t, l, []int{6, 7}, list(a9, a7, a5), list(a9, a7))
	fold(t, l, []int{4}, list(a9, a3), list(a9, a3))
	fold(t, l, []int{6, 4}, list(a9, a5, a3), list(a9, a5, a3))
	fold(t, l, []int{2}, list(a9), nil)
}

func TestFoldOfDeletesOnly(t *testing.T) {
	l := list(del("a", 9), del("a", 5), del("b", 7), del("c", 8), del("c", 1))
	fold(t, l, nil, list(l[0], l[2], l[3]), nil)
	fold(t, l, []int{5}, list(l[0], l[1], l[2], l[3], l[4]), nil)
	fold(t, l, []int{9, 8, 7, 6, 5, 4, 3, 2, 1}, l, nil)
	fold(t, list(del("a", 1)), []int{1}, list(del("a", 1)), nil)
}

// TestFoldOfKeysBesideOneAnother: what is done with one key is not done with the next one.
func TestFoldOfKeysBesideOneAnother(t *testing.T) {
	l := list(del("a", 4), put("a", 2), put("a\x00", 3), del("aa", 9), put("b", 9), del("b", 8), del("c", 3), put("d", 1))
	fold(t, l, nil, list(l[0], l[2], l[3], l[4], l[6], l[7]), list(l[2], l[4], l[7]))
	fold(t, l, []int{3, 8}, list(l[0], l[1], l[2], l[3], l[4], l[5], l[6], l[7]), list(l[0], l[1], l[2], l[4], l[7]))
	// The empty key is one as another.
	l = list(del("", 4), del("", 2), put("a", 1))
	fold(t, l, []int{2}, l, list(l[2]))
	l = list(put("", 4), put("", 2), del("a", 1))
	fold(t, l, []int{3}, l, list(l[0], l[1]))
}

// TestFoldAboveMaxSeq: an entry above it stays, if just that is kept.
func TestFoldAboveMaxSeq(t *testing.T) {
	l := list(put("a", 1<<30+5), put("a", 1<<30+1), put("a", 1<<30), put("a", 7), put("b", 1<<30+1))
	fold(t, l, nil, list(l[2]), list(l[2]))
	fold(t, l, []int{1<<30 + 3}, list(l[1], l[2], l[4]), list(l[1], l[2], l[4]))
	fold(t, l, []int{math.MaxInt, 9}, list(l[0], l[2], l[3], l[4]), list(l[0], l[2], l[3], l[4]))
	// And below 0.
	l = list(put("a", 0), put("a", -3), put("a", math.MinInt))
	fold(t, l, nil, l[:1], l[:1])
	fold(t, l, []int{-1}, l[:2], l[:2])
	fold(t, l, []int{math.MinInt, -3}, l, l)
	fold(t, l, []int{-4}, list(l[0], l[2]), list(l[0], l[2]))
}

// TestFoldEndsInTime: many entries, and many Seqs.
func TestFoldEndsInTime(t *testing.T) {
	var l []api.Entry
	var keep []int
	for i := range 100000 {
		l = append(l, put("k", 200000-2*i))
		keep = append(keep, 2*((i*7919)%100000)+1)
	}
	if got := Fold(l, keep, true); !slices.Equal(got, l) {
		t.Errorf("%d stay of %d", len(got), len(l))
	}
}
