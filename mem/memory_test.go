package mem

import (
	"slices"
	"testing"
	"unsafe"

	"stagepost/api"
)

// These are the tests of rule 4 (an answer is new memory, what is handed in stays as it is and is not kept).

const spare = 77

// roomy is l with spare room behind it that is filled with a height that is none.
func roomy(l []int) []int {
	all := slices.Repeat([]int{spare}, len(l)+8)
	return all[:copy(all, l)]
}

// spoil writes over all of l, its spare room too.
func spoil(l []int) {
	for i := range l[:cap(l)] {
		l[:cap(l)][i] = spare
	}
}

// spoilEntries writes over all of l, its spare room too.
func spoilEntries(l []api.Entry) {
	for i := range l[:cap(l)] {
		l[:cap(l)][i] = put("spoilt", spare)
	}
}

func TestNewKeepsNothing(t *testing.T) {
	for _, heights := range append(shapes(), []int{1, 2, 0, 4}, []int{13}) {
		handed := roomy(heights)
		m, e := New(handed)
		if !slices.Equal(handed, heights) || !slices.Equal(handed[len(handed):cap(handed)], slices.Repeat([]int{spare}, 8)) {
			t.Errorf("New changed what it was handed: %v", handed[:cap(handed)])
		}
		if e != api.OK {
			continue
		}
		// Half of the entries are added ahead of the change, half behind it: neither sees it.
		l := mixed(various(), 9)
		adds(t, m, l[:8]...)
		spoil(handed)
		adds(t, m, l[8:]...)
		is(t, m, &model{heights: heights, added: l})
		if !slices.Equal(handed[:cap(handed)], slices.Repeat([]int{spare}, cap(handed))) {
			t.Errorf("what was handed in was changed later: %v", handed[:cap(handed)])
		}
	}
}

// TestNewDoesNotReadSpareRoom: what stands there may be no height.
func TestNewDoesNotReadSpareRoom(t *testing.T) {
	all := []int{2, 1, 3, 0, 13, -1}
	m, e := New(all[:3])
	if e != api.OK {
		t.Fatalf("New: %v", e)
	}
	adds(t, m, row(9)...)
	is(t, m, &model{heights: []int{2, 1, 3}, added: row(9)})
}

// TestTablesShareNoHeights: one list for two tables, and changed between.
func TestTablesShareNoHeights(t *testing.T) {
	heights := []int{1, 4}
	one := fresh(t, heights...)
	heights[0] = 3
	other := fresh(t, heights...)
	heights[0], heights[1] = 12, 12
	adds(t, one, row(4)...)
	adds(t, other, row(4)...)
	lane(t, one, 3, 1, 3)
	lane(t, other, 3, 0, 1, 2, 3)
	lane(t, other, 4, 1, 3)
	lane(t, one, 5)
}

// soft is e with texts whose bytes can be written over, as nobody should, and the call that does so.
func soft(e api.Entry) (api.Entry, func()) {
	key, value := []byte(e.Key), []byte(e.Value)
	e.Key, e.Value = unsafe.String(unsafe.SliceData(key), len(key)), unsafe.String(unsafe.SliceData(value), len(value))
	return e, func() {
		for i := range key {
			key[i] = spare
		}
		for i := range value {
			value[i] = spare
		}
	}
}

func TestAddKeepsNoText(t *testing.T) {
	m := fresh(t, 2, 1, 3)
	for _, e := range various() {
		handed, change := soft(e)
		adds(t, m, handed)
		change()
		again, change := soft(e)
		answers(t, "Add again", m.Add(again), api.ErrThere)
		change()
	}
	is(t, m, &model{heights: []int{2, 1, 3}, added: various()})
}

func TestReadsKeepNoText(t *testing.T) {
	m := holding(t, nil, put("a", 1), put("b", 1))
	e, change := soft(put("a", 1))
	got, _ := m.Get(e.Key, 1)
	all := m.Scan(api.Span{From: e.Key}, 1)
	change()
	if got != put("a", 1) || !slices.Equal(all, list(put("a", 1), put("b", 1))) {
		t.Errorf("an answer was changed from outside: %s, %s", brief(list(got)), brief(all))
	}
}

func TestScanAnswersNewMemory(t *testing.T) {
	m := holding(t, []int{2, 1, 3}, various()...)
	was := tell(m)
	for _, s := range []api.Span{{}, {From: "a"}, {From: "a", To: "b"}, alone("a"), {From: "zz", To: "a"}} {
		one, other := m.Scan(s, 1<<30), m.Scan(s, 1<<30)
		want := slices.Clone(other)
		for _, e := range one[len(one):cap(one)] {
			if e != (api.Entry{}) {
				t.Errorf("spare room holds %s", brief(list(e)))
			}
		}
		spoilEntries(one)
		if !slices.Equal(other, want) {
			t.Errorf("Scan's answers share memory: %s", brief(other))
		}
		if now := tell(m); now != was {
			t.Fatalf("Scan's answer is the table's own: of\n%s\ncame\n%s", was, now)
		}
	}
}

func TestLaneAnswersNewMemory(t *testing.T) {
	m := holding(t, []int{2, 1, 3}, various()...)
	was := tell(m)
	for h := 1; h <= 4; h++ {
		one, other, above := m.Lane(h), m.Lane(h), m.Lane(h+1)
		want, wantAbove := slices.Clone(other), slices.Clone(above)
		for _, n := range one[len(one):cap(one)] {
			if n != 0 {
				t.Errorf("spare room holds %d", n)
			}
		}
		spoil(one)
		if !slices.Equal(other, want) || !slices.Equal(above, wantAbove) {
			t.Errorf("Lane's answers share memory: %v, %v", other, above)
		}
		if now := tell(m); now != was {
			t.Fatalf("Lane's answer is the table's own: of\n%s\ncame\n%s", was, now)
		}
	}
}

// TestWhatIsToldStays: what is added later is not seen in an answer.
func TestWhatIsToldStays(t *testing.T) {
	m := holding(t, []int{2, 1}, put("b", 1), put("d", 1))
	got, _ := m.Get("b", 9)
	all, two := m.Scan(api.Span{}, 9), m.Lane(2)
	adds(t, m, put("b", 2), put("a", 1), put("c", 1), put("e", 1))
	if got != put("b", 1) || !slices.Equal(all, list(put("b", 1), put("d", 1))) || !slices.Equal(two, []int{0}) {
		t.Errorf("an answer was changed later: %s, %s, %v", brief(list(got)), brief(all), two)
	}
}
