package mem

import (
	"math"
	"slices"
	"testing"

	"stagepost/api"
)

// These are the tests of P6.2.

func TestNewOfOneHeight(t *testing.T) {
	for h := -1; h <= 14; h++ {
		want := api.OK
		if h < 1 || h > 12 {
			want = api.ErrArg
		}
		m, e := New([]int{h})
		if e != want || (m != nil) != (want == api.OK) {
			t.Errorf("New(%d): %v, %v", h, m, e)
		}
	}
	for _, h := range []int{math.MinInt, -12, 1 << 32, 1<<32 + 1, math.MaxInt} {
		if m, e := New([]int{h}); m != nil || e != api.ErrArg {
			t.Errorf("New(%d): %v, %v", h, m, e)
		}
	}
}

func TestNewOfManyHeights(t *testing.T) {
	for _, heights := range shapes() {
		m := fresh(t, heights...)
		has(t, m)
		is(t, m, &model{heights: heights})
	}
	all := slices.Repeat([]int{1, 12, 7}, 1000)
	fresh(t, all...)
	for _, place := range []int{0, 1, 1500, 2999} {
		for _, h := range []int{0, 13, -1} {
			wrong := slices.Clone(all)
			wrong[place] = h
			if m, e := New(wrong); m != nil || e != api.ErrArg {
				t.Errorf("New with %d at %d: %v, %v", h, place, m, e)
			}
		}
	}
}

func TestNewWithoutHeights(t *testing.T) {
	for _, heights := range [][]int{nil, {}, make([]int, 0, 4)} {
		m, e := New(heights)
		if m == nil || e != api.OK {
			t.Fatalf("New(%v): %v, %v", heights, m, e)
		}
		adds(t, m, put("b", 1), put("a", 1))
		lane(t, m, 1, 0, 1)
		lane(t, m, 2)
	}
}

func TestAddOfWhatMayNotBe(t *testing.T) {
	m := holding(t, nil, put("k", 1))
	for _, e := range list(
		api.Entry{}, put("k", 0), put("k", -1), put("k", 1<<30+1), put("", 1), put(long(513), 1), del("", 1), del("k", 0), del("k", 1<<30+1), del(long(513), 1),
		api.Entry{Key: "k", Value: long(4097), Seq: 2}, api.Entry{Key: "k", Value: "v", Seq: 2, Del: true},
	) {
		answers(t, "Add of "+brief(list(e)), m.Add(e), api.ErrArg)
		has(t, m, put("k", 1))
	}
}

func TestAddOfTheEdges(t *testing.T) {
	for _, e := range list(
		put("k", 1), put("k", 2), put("k", 1<<30-1), put("k", 1<<30), put(long(511), 1), put(long(512), 1), del("k", 1), del("k", 1<<30), del(long(512), 1),
		api.Entry{Key: "k", Seq: 1}, api.Entry{Key: "k", Value: long(4095), Seq: 1}, api.Entry{Key: long(512), Value: long(4096), Seq: 1 << 30}, put("\x00", 1), put("\xff\xff", 1),
	) {
		m := holding(t, nil, e)
		has(t, m, e)
		gets(t, m, e.Key, e.Seq, e)
		if m.Size() != len(e.Key)+len(e.Value) {
			t.Errorf("Size: %d, of %s", m.Size(), brief(list(e)))
		}
	}
}

func TestAddOfWhatIsThere(t *testing.T) {
	for _, heights := range shapes() {
		m := holding(t, heights, various()...)
		was := tell(m)
		for _, e := range various() {
			answers(t, "the same", m.Add(e), api.ErrThere)
			answers(t, "another value", m.Add(api.Entry{Key: e.Key, Value: "other", Seq: e.Seq}), api.ErrThere)
			answers(t, "no value", m.Add(api.Entry{Key: e.Key, Seq: e.Seq}), api.ErrThere)
			answers(t, "a delete", m.Add(del(e.Key, e.Seq)), api.ErrThere)
		}
		if now := tell(m); now != was {
			t.Errorf("what was refused changed\n%s\ninto\n%s", was, now)
		}
	}
}

// TestAddOfWhatIsNearlyThere has another Seq of a key, or another key at a Seq.
func TestAddOfWhatIsNearlyThere(t *testing.T) {
	m := holding(t, []int{3, 1}, put("k", 5))
	adds(t, m, put("k", 4), put("k", 6), put("K", 5), put("k\x00", 5), put("kk", 5), put("j", 5))
	has(t, m, put("K", 5), put("j", 5), put("k", 6), put("k", 5), put("k", 4), put("k\x00", 5), put("kk", 5))
}

// TestAddTellsTheFirstError: what may not be is told ahead of what is there (rule 1).
func TestAddTellsTheFirstError(t *testing.T) {
	m := holding(t, nil, put("k", 1))
	answers(t, "too long a value", m.Add(api.Entry{Key: "k", Value: long(4097), Seq: 1}), api.ErrArg)
	answers(t, "a delete with a value", m.Add(api.Entry{Key: "k", Value: "v", Seq: 1, Del: true}), api.ErrArg)
	answers(t, "no table", (*Table)(nil).Add(put("", 0)), api.ErrNil)
	answers(t, "one that nobody made", new(Table).Add(put("", 0)), api.ErrNil)
}

// TestRefusedEntriesHaveNoTower: the next one has the tower that it would have had (rule 3).
func TestRefusedEntriesHaveNoTower(t *testing.T) {
	m := fresh(t, 1, 4, 2)
	for i, e := range list(put("a", 1), put("b", 1), put("c", 1), put("d", 1), put("e", 1)) {
		for range i + 1 {
			answers(t, "Add of an empty key", m.Add(put("", 1)), api.ErrArg)
		}
		adds(t, m, e)
		for range i + 2 {
			answers(t, "Add again", m.Add(e), api.ErrThere)
		}
	}
	lane(t, m, 1, 0, 1, 2, 3, 4)
	lane(t, m, 2, 1, 2, 4)
	lane(t, m, 3, 1, 4)
	lane(t, m, 4, 1, 4)
	lane(t, m, 5)
}

// TestTablesDoNotMeet: what is done to one is not seen in another one (P7).
func TestTablesDoNotMeet(t *testing.T) {
	heights := []int{2, 1, 3}
	one, other := fresh(t, heights...), fresh(t, heights...)
	was := tell(other)
	adds(t, one, various()...)
	if now := tell(other); now != was {
		t.Errorf("what was added to one changed another one\n%s\ninto\n%s", was, now)
	}
	adds(t, other, put("a", 1))
	is(t, one, &model{heights: heights, added: various()})
}
