package mem

import (
	"math"
	"testing"

	"stagepost/api"
)

// These are the tests of rule 5 (no table), and of rule 3 (an error changes nothing).

// nothing says that each method answers as of no table.
func nothing(t *testing.T, what string, m *Table) {
	t.Helper()
	for _, e := range list(put("a", 1), del("a", 1), put("a", 0), put("", 1), api.Entry{}, put("z", 1<<30+1)) {
		answers(t, what+": Add", m.Add(e), api.ErrNil)
	}
	if m.Len() != 0 || m.Size() != 0 {
		t.Errorf("%s: Len %d, Size %d", what, m.Len(), m.Size())
	}
	all := m.All()
	if all == nil {
		t.Fatalf("%s: All is nil", what)
	}
	for range 2 {
		for e := range all {
			t.Errorf("%s: All goes over %v", what, e)
		}
	}
	for h := -1; h <= 13; h++ {
		if got := m.Lane(h); got != nil {
			t.Errorf("%s: Lane(%d): %v", what, h, got)
		}
	}
	for _, key := range []string{"", "a", "b", long(600)} {
		for _, seq := range []int{math.MinInt, -1, 0, 1, 1 << 30, math.MaxInt} {
			if e, ok := m.Get(key, seq); e != (api.Entry{}) || ok {
				t.Errorf("%s: Get(%q, %d): %v, %v", what, key, seq, e, ok)
			}
			if got := m.Cost(key, seq); got != 0 {
				t.Errorf("%s: Cost(%q, %d): %d", what, key, seq, got)
			}
			for _, s := range []api.Span{{}, {From: key}, {To: key}, alone(key)} {
				if got := m.Scan(s, seq); got != nil {
					t.Errorf("%s: Scan(%q, %d): %v", what, s, seq, got)
				}
			}
		}
	}
}

func TestNoTable(t *testing.T) {
	var none Table
	refused, _ := New([]int{0})
	for what, m := range map[string]*Table{"nil": nil, "one that nobody made": {}, "a variable": &none, "a new one": new(Table), "one that was refused": refused} {
		nothing(t, what, m)
		// It doesn't become one by being asked.
		nothing(t, what+", again", m)
	}
}

// TestCopiesAreNoTables: New answered the one that was copied, not the copy; what is tried there is not seen in the other.
func TestCopiesAreNoTables(t *testing.T) {
	m := holding(t, []int{2, 1}, various()...)
	was := tell(m)
	other := *m
	nothing(t, "a copy", &other)
	if now := tell(m); now != was {
		t.Errorf("what was tried at a copy changed\n%s\ninto\n%s", was, now)
	}
	empty := *fresh(t)
	nothing(t, "a copy of an empty one", &empty)
}

func TestRefusedCallsChangeNothing(t *testing.T) {
	for _, heights := range shapes() {
		m := holding(t, heights, various()...)
		was := tell(m)
		for _, e := range list(various()[0], del("a", 1), put("", 1), put("new", 0), put("new", 1<<30+1), del("new", -1), put(long(513), 1), api.Entry{Key: "new", Value: "v", Seq: 1, Del: true}, api.Entry{Key: "new", Value: long(4097), Seq: 1}) {
			if m.Add(e) == api.OK {
				t.Fatalf("Add of %s is not refused", brief(list(e)))
			}
			if now := tell(m); now != was {
				t.Fatalf("Add of %s changed\n%s\ninto\n%s", brief(list(e)), was, now)
			}
		}
		adds(t, m, put("new", 1), put("newer", 1), put("a new one", 1))
		is(t, m, &model{heights: heights, added: append(various(), put("new", 1), put("newer", 1), put("a new one", 1))})
	}
}
