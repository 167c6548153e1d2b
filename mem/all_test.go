package mem

import (
	"fmt"
	"iter"
	"slices"
	"testing"

	"stagepost/api"
)

// These are the tests of P6.3, of All, Len and Size; rule 8 says what an iterator does.

func TestAllIsInOrder(t *testing.T) {
	want := slices.Collect((&model{added: various()}).All())
	for seed, heights := range shapes() {
		has(t, holding(t, heights, mixed(various(), uint64(seed))...), want...)
	}
}

func TestAllOfAnEmptyTable(t *testing.T) {
	m := fresh(t, 3)
	has(t, m)
	all := m.All()
	if all == nil {
		t.Fatal("All of an empty table is nil")
	}
	for e := range all {
		t.Errorf("an empty table has %v", e)
	}
	// What is added later is not gone over, though there was nothing.
	adds(t, m, put("a", 1))
	for e := range all {
		t.Errorf("an empty table had %v", e)
	}
}

func TestAllStoppedMidway(t *testing.T) {
	m := holding(t, []int{1, 2, 4}, various()...)
	want := slices.Collect(m.All())
	all := m.All()
	for stop := 1; stop <= len(want); stop++ {
		var got []api.Entry
		for e := range all {
			got = append(got, e)
			if len(got) == stop {
				break
			}
		}
		if !slices.Equal(got, want[:stop]) {
			t.Errorf("stopped behind %d: %s", stop, brief(got))
		}
	}
	if got := slices.Collect(all); !slices.Equal(got, want) {
		t.Errorf("gone over again: %s", brief(got))
	}
}

// TestAllStopsWhereItIsTold: behind a false nobody is asked again.
func TestAllStopsWhereItIsTold(t *testing.T) {
	m := holding(t, nil, various()...)
	asked := 0
	m.All()(func(api.Entry) bool {
		asked++
		return asked < 3
	})
	if asked != 3 {
		t.Errorf("asked %d times, not 3", asked)
	}
}

func TestAllGoneOverTwice(t *testing.T) {
	m := holding(t, []int{5}, various()...)
	all := m.All()
	first, second := slices.Collect(all), slices.Collect(all)
	if !slices.Equal(first, second) || len(first) != len(various()) {
		t.Errorf("gone over twice: %s, then %s", brief(first), brief(second))
	}
	// One within the other.
	n := 0
	for a := range all {
		for b := range all {
			if a == b {
				n++
			}
		}
	}
	if n != len(first) {
		t.Errorf("one within the other: %d, not %d", n, len(first))
	}
}

// TestAllGoesOverWhatWasThere has an iterator for each state of a table, and goes over all of them at its end.
func TestAllGoesOverWhatWasThere(t *testing.T) {
	for seed, heights := range shapes() {
		l := mixed(various(), uint64(seed+100))
		m := fresh(t, heights...)
		were := []iter.Seq[api.Entry]{m.All()}
		for _, e := range l {
			adds(t, m, e)
			were = append(were, m.All())
		}
		answers(t, "Add again", m.Add(l[0]), api.ErrThere)
		for round := range 2 {
			for n, all := range were {
				want := slices.Collect((&model{added: l[:n]}).All())
				if got := slices.Collect(all); !slices.Equal(got, want) {
					t.Fatalf("round %d, heights %v, as of %d entries: %s; not %s", round, heights, n, brief(got), brief(want))
				}
			}
		}
	}
}

// TestAllWhileEntriesAreAdded adds from within the loop: ahead of where it stands, right behind, and far behind.
func TestAllWhileEntriesAreAdded(t *testing.T) {
	start := list(put("d", 5), put("h", 5), put("m", 5))
	for _, heights := range shapes() {
		m := holding(t, heights, start...)
		all := m.All()
		var got []api.Entry
		added := &model{heights: heights, added: slices.Clone(start)}
		for e := range all {
			got = append(got, e)
			for _, x := range list(put("a", len(got)), put(e.Key, 9), put(e.Key, 3), put(e.Key+"\x00", 1), put("z", len(got))) {
				adds(t, m, x)
				added.Add(x)
			}
		}
		if !slices.Equal(got, start) {
			t.Errorf("heights %v: it goes over %s; not %s", heights, brief(got), brief(start))
		}
		if got := slices.Collect(all); !slices.Equal(got, start) {
			t.Errorf("heights %v: gone over again: %s; not %s", heights, brief(got), brief(start))
		}
		is(t, m, added)
	}
}

// TestAllEnds though each entry that is gone over brings another one behind it (P7).
func TestAllEnds(t *testing.T) {
	m := holding(t, nil, put("k000", 1))
	n := 0
	for range m.All() {
		n++
		if n > 100 {
			t.Fatal("it doesn't end")
		}
		adds(t, m, put(fmt.Sprintf("k%03d", n), 1))
	}
	if n != 1 || m.Len() != 2 {
		t.Errorf("gone over %d, %d are there", n, m.Len())
	}
}

func TestAllWhileItIsAsked(t *testing.T) {
	m := holding(t, []int{2, 1, 3}, various()...)
	want := slices.Collect(m.All())
	was := tell(m)
	var got []api.Entry
	for e := range m.All() {
		got = append(got, e)
		m.Get(e.Key, e.Seq)
		m.Scan(api.Span{From: e.Key}, e.Seq)
		m.Lane(2)
		m.Cost(e.Key, e.Seq)
		m.Add(e)
	}
	if !slices.Equal(got, want) || tell(m) != was {
		t.Errorf("asked meanwhile it goes over %s", brief(got))
	}
}

func TestLenAndSize(t *testing.T) {
	m := fresh(t, 1, 3)
	count, size := 0, 0
	is := func() {
		t.Helper()
		if m.Len() != count || m.Size() != size {
			t.Errorf("Len %d, Size %d; not %d, %d", m.Len(), m.Size(), count, size)
		}
	}
	is()
	for _, e := range various() {
		adds(t, m, e)
		count, size = count+1, size+len(e.Key)+len(e.Value)
		is()
		answers(t, "Add again", m.Add(e), api.ErrThere)
		answers(t, "Add of an empty key", m.Add(put("", 1)), api.ErrArg)
		is()
	}
	adds(t, m, del("zz", 7), api.Entry{Key: "zzz", Seq: 7}, api.Entry{Key: "é", Value: "ß", Seq: 7})
	count, size = count+3, size+2+3+4
	is()
}
