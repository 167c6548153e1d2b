package mem

import (
	"math"
	"slices"
	"testing"

	"stagepost/api"
	"stagepost/enc"
)

// These are the tests of P6.5.

// crowd are n entries of few keys, no two with one Key and Seq.
func crowd(n int) []api.Entry {
	var l []api.Entry
	for i := range n {
		e := put(string([]byte{byte('a' + i*7%11)}), 1+i/11*3+i%3)
		if i%5 == 4 {
			e = del(e.Key, e.Seq)
		}
		l = append(l, e)
	}
	return l
}

// orders are l in several orders.
func orders(l []api.Entry) [][]api.Entry {
	all := [][]api.Entry{l, turned(l), slices.Collect((&model{added: l}).All()), turned(slices.Collect((&model{added: l}).All()))}
	for seed := range uint64(6) {
		all = append(all, mixed(l, seed))
	}
	return all
}

// TestTheOrderOfAddingMeansNothing but to towers: where these are all alike, all that can be asked is alike.
func TestTheOrderOfAddingMeansNothing(t *testing.T) {
	for _, l := range [][]api.Entry{crowd(50), various(), row(20), versions("k", 3, 4, 30)} {
		for h := 1; h <= 12; h++ {
			want := tell(holding(t, []int{h}, l...))
			for i, l := range orders(l) {
				if got := tell(holding(t, []int{h}, l...)); got != want {
					t.Fatalf("the order %d, towers of %d: it tells\n%s\nnot\n%s", i, h, got, want)
				}
			}
		}
	}
}

// TestTheOrderOfAddingMeansNothingToEntries: whatever the towers are, the same entries are told.
func TestTheOrderOfAddingMeansNothingToEntries(t *testing.T) {
	l := crowd(50)
	want := holding(t, nil, l...)
	for _, heights := range shapes() {
		for _, l := range orders(l) {
			m := holding(t, heights, l...)
			has(t, m, slices.Collect(want.All())...)
			if m.Size() != want.Size() {
				t.Errorf("Size: %d, not %d", m.Size(), want.Size())
			}
			for _, seq := range seqs(l) {
				scans(t, m, api.Span{}, seq, want.Scan(api.Span{}, seq)...)
				for _, key := range keys(l) {
					e, ok := want.Get(key, seq)
					if got, is := m.Get(key, seq); got != e || is != ok {
						t.Fatalf("Get(%s, %d): %s, %v; not %s, %v", short(key), seq, brief(list(got)), is, brief(list(e)), ok)
					}
				}
			}
		}
	}
}

func TestAllIsInTheOrderOfAhead(t *testing.T) {
	for _, heights := range shapes() {
		var last api.Entry
		n := 0
		for e := range holding(t, heights, crowd(60)...).All() {
			if n > 0 && (!Ahead(last, e) || Ahead(e, last)) {
				t.Errorf("%s stands ahead of %s", brief(list(last)), brief(list(e)))
			}
			last = e
			n++
		}
		if n != 60 {
			t.Errorf("%d entries, not 60", n)
		}
	}
}

// TestGetIsTheFirstOfScan of that key alone, by a span that has no other key.
func TestGetIsTheFirstOfScan(t *testing.T) {
	for _, heights := range shapes() {
		l := append(various(), crowd(40)[11:]...)
		m := fresh(t, heights...)
		for _, e := range l {
			m.Add(e)
		}
		for _, key := range keys(l) {
			for _, seq := range seqs(l) {
				e, ok := m.Get(key, seq)
				all := m.Scan(alone(key), seq)
				if ok != (len(all) > 0) || ok && all[0] != e || len(all) > 1 {
					t.Fatalf("of %s at %d Get tells %s, %v, and Scan %s", short(key), seq, brief(list(e)), ok, brief(all))
				}
			}
		}
	}
}

// TestLaterScansAreNotOlder: each key that is told is told at a greater Seq too, in a version that is not older.
func TestLaterScansAreNotOlder(t *testing.T) {
	for _, heights := range shapes() {
		l := crowd(60)
		m := holding(t, heights, l...)
		for _, s := range []api.Span{{}, {From: "c"}, {To: "g"}, {From: "b", To: "h"}} {
			told := map[string]int{}
			for _, seq := range seqs(l) {
				now := map[string]int{}
				for _, e := range m.Scan(s, seq) {
					if e.Seq > seq || e.Seq < told[e.Key] || !enc.In(e.Key, s) {
						t.Errorf("Scan at %d tells %s, behind %d", seq, brief(list(e)), told[e.Key])
					}
					now[e.Key] = e.Seq
				}
				for key := range told {
					if now[key] == 0 {
						t.Errorf("Scan at %d doesn't tell %s any more", seq, key)
					}
				}
				told = now
			}
		}
	}
}

func TestEachLaneIsPartOfTheOneBelow(t *testing.T) {
	for _, heights := range shapes() {
		m := fresh(t, heights...)
		for _, e := range mixed(crowd(60), 5) {
			adds(t, m, e)
			below := m.Lane(1)
			if !slices.Equal(below, places(m.Len())) {
				t.Fatalf("heights %v: the lane 1 of %d entries is %v", heights, m.Len(), below)
			}
			for h := 2; h <= 12; h++ {
				l := m.Lane(h)
				for i, place := range l {
					if !slices.Contains(below, place) || i > 0 && l[i-1] >= place {
						t.Fatalf("heights %v: the lane %d is %v, above %v", heights, h, l, below)
					}
				}
				below = l
			}
		}
	}
}

func TestCostIsAtMostLenAnd12(t *testing.T) {
	for _, heights := range shapes() {
		m := fresh(t, heights...)
		for _, e := range mixed(crowd(60), 8) {
			adds(t, m, e)
			for _, key := range []string{"", "a", "b", "c", "d", "e", "f", "g", "h", "i", "j", "k", "l", e.Key + "\x00"} {
				for _, seq := range []int{math.MinInt, 0, 1, 5, 9, 14, 1 << 30, math.MaxInt} {
					if n := m.Cost(key, seq); n < 0 || n > m.Len()+12 {
						t.Fatalf("heights %v: Cost(%q, %d) of %d entries: %d", heights, key, seq, m.Len(), n)
					}
				}
			}
		}
	}
}

// TestTowersSaveSteps: with the towers of a ruler the way to each of 4,095 entries is short.
func TestTowersSaveSteps(t *testing.T) {
	var heights []int
	for n := 1; n <= 4095; n++ {
		h := 1
		for x := n; x%2 == 0; x /= 2 {
			h++
		}
		heights = append(heights, h)
	}
	m := holding(t, heights, row(4095)...)
	most := 0
	for _, e := range row(4095) {
		most = max(most, m.Cost(e.Key, e.Seq))
	}
	if most != 23 {
		t.Errorf("the longest way has %d steps, not 23", most)
	}
}
