package mem

import (
	"math"
	"slices"
	"testing"

	"stagepost/api"
)

// These are the tests of P6.3, of Get and Scan.

// versions are those of one key from a Seq on, in steps.
func versions(key string, from, step, n int) []api.Entry {
	var l []api.Entry
	for i := range n {
		l = append(l, put(key, from+i*step))
	}
	return l
}

// turned is l from its end on.
func turned(l []api.Entry) []api.Entry {
	l = slices.Clone(l)
	slices.Reverse(l)
	return l
}

// TestVersionsOfOneKey adds them rising, falling and mixed, with other keys beside it.
func TestVersionsOfOneKey(t *testing.T) {
	l := versions("k", 10, 10, 40)
	for what, l := range map[string][]api.Entry{"rising": l, "falling": turned(l), "mixed": mixed(l, 1), "otherwise": mixed(l, 2)} {
		for _, heights := range shapes() {
			m := holding(t, heights, put("j", 15))
			adds(t, m, l...)
			adds(t, m, put("k\x00", 15))
			for seq := -5; seq < 10; seq++ {
				misses(t, m, "k", seq)
				scans(t, m, alone("k"), seq)
			}
			for seq := 10; seq < 420; seq++ {
				want := put("k", min(seq/10*10, 400))
				gets(t, m, "k", seq, want)
				scans(t, m, alone("k"), seq, want)
			}
			for _, seq := range []int{1 << 30, 1<<30 + 1, math.MaxInt} {
				gets(t, m, "k", seq, put("k", 400))
				scans(t, m, api.Span{}, seq, put("j", 15), put("k", 400), put("k\x00", 15))
			}
			misses(t, m, "k", math.MinInt)
			if t.Failed() {
				t.Fatalf("%s, heights %v", what, heights)
			}
		}
	}
}

func TestGetOfNothing(t *testing.T) {
	m := fresh(t, 1, 2)
	for _, key := range []string{"", "a", long(512), long(513)} {
		misses(t, m, key, 1<<30)
	}
	adds(t, m, put("b", 5), put("d", 5))
	for _, key := range []string{"", "a", "c", "e", "b\x00", "B", "bb", long(513), "\xff"} {
		for _, seq := range []int{math.MinInt, 0, 4, 5, 6, math.MaxInt} {
			misses(t, m, key, seq)
		}
	}
	// The next key has a version at that Seq; the one that is asked for has none.
	misses(t, m, "b", 4)
	misses(t, m, "d", 4)
	misses(t, m, "b", 0)
	misses(t, m, "b", -5)
}

// TestDeletesAreVersions: they are told like any other one, and cover what is older.
func TestDeletesAreVersions(t *testing.T) {
	m := holding(t, []int{1, 3}, put("a", 1), del("a", 4), put("a", 6), del("b", 2), put("c", 3), del("c", 8))
	misses(t, m, "a", 0)
	gets(t, m, "a", 3, put("a", 1))
	gets(t, m, "a", 4, del("a", 4))
	gets(t, m, "a", 5, del("a", 4))
	gets(t, m, "a", 6, put("a", 6))
	gets(t, m, "b", 9, del("b", 2))
	scans(t, m, api.Span{}, 1, put("a", 1))
	scans(t, m, api.Span{}, 2, put("a", 1), del("b", 2))
	scans(t, m, api.Span{}, 5, del("a", 4), del("b", 2), put("c", 3))
	scans(t, m, api.Span{}, 9, put("a", 6), del("b", 2), del("c", 8))
}

// letters is a table with the keys b, d, f, h, each at 5 and at 9.
func letters(t *testing.T) *Table {
	t.Helper()
	m := fresh(t, 1, 2, 1, 4)
	for _, key := range []string{"f", "b", "h", "d"} {
		adds(t, m, put(key, 9), put(key, 5))
	}
	return m
}

func TestScanOfSpans(t *testing.T) {
	m := letters(t)
	b, d, f, h := put("b", 5), put("d", 5), put("f", 5), put("h", 5)
	for _, x := range []struct {
		from, to string
		want     []api.Entry
	}{
		{"", "", list(b, d, f, h)},
		{"b", "", list(b, d, f, h)},
		{"b\x00", "", list(d, f, h)},
		{"h", "", list(h)},
		{"h\x00", "", nil},
		{"\xff", "", nil},
		{long(600), "", nil},
		{"", "a", nil},
		{"", "b", nil},
		{"", "b\x00", list(b)},
		{"", "z", list(b, d, f, h)},
		{"a", "c", list(b)},
		{"b", "d", list(b)},
		{"b", "d\x00", list(b, d)},
		{"c", "g", list(d, f)},
		{"d", "h", list(d, f)},
		{"d", "f", list(d)},
		{"e", "f", nil},
		{"e", "e", nil},
		{"d", "d", nil},
		{"d", "d\x00", list(d)},
		{"h", "b", nil},
		{"f", "d", nil},
		{"d\x00", "d", nil},
		{"z", "a", nil},
	} {
		scans(t, m, api.Span{From: x.from, To: x.to}, 7, x.want...)
	}
}

func TestScanAtSeqs(t *testing.T) {
	m := letters(t)
	adds(t, m, put("e", 7))
	s := api.Span{From: "c", To: "g"}
	for _, seq := range []int{math.MinInt, -1, 0, 1, 4} {
		scans(t, m, s, seq)
		scans(t, m, api.Span{}, seq)
	}
	for _, seq := range []int{5, 6} {
		scans(t, m, s, seq, put("d", 5), put("f", 5))
	}
	for _, seq := range []int{7, 8} {
		scans(t, m, s, seq, put("d", 5), put("e", 7), put("f", 5))
	}
	for _, seq := range []int{9, 10, 1 << 30, 1<<30 + 1, math.MaxInt} {
		scans(t, m, s, seq, put("d", 9), put("e", 7), put("f", 9))
	}
}

// TestScanMeetsTheLastSeq: a version at MaxSeq, of the span's first key.
func TestScanMeetsTheLastSeq(t *testing.T) {
	m := holding(t, nil, put("a", 1<<30), put("b", 1<<30), put("b", 1), put("c", 1<<30))
	scans(t, m, api.Span{From: "b"}, 1<<30, put("b", 1<<30), put("c", 1<<30))
	scans(t, m, api.Span{From: "b"}, math.MaxInt, put("b", 1<<30), put("c", 1<<30))
	scans(t, m, api.Span{From: "b"}, 1<<30-1, put("b", 1))
}

func TestScanOfAnEmptyTable(t *testing.T) {
	m := fresh(t)
	for _, s := range []api.Span{{}, {From: "a"}, {To: "a"}, {From: "a", To: "b"}, {From: "b", To: "a"}} {
		if got := m.Scan(s, 1<<30); len(got) != 0 {
			t.Errorf("Scan(%q): %v", s, got)
		}
	}
}

func TestReadsOfVariousEntries(t *testing.T) {
	for i, heights := range shapes() {
		l := mixed(various(), uint64(i))
		is(t, holding(t, heights, l...), &model{heights: heights, added: l})
	}
}
