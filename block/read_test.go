package block

import (
	"math"
	"slices"
	"testing"

	"stagepost/api"
)

// These are the tests of P7.2.

// three are the versions 10, 20 and 30 of k, between other keys.
func three() []api.Entry {
	return list(put("j", 15), put("k", 30), del("k", 20), put("k", 10), put("k\x00", 15))
}

// told says what Find tells of k among three, and Visible of all keys: of k the version, if want is not 0.
func told(t testing.TB, seq, want int) {
	t.Helper()
	var all []api.Entry
	e, ok := Find(three(), "k", seq)
	if want == 0 {
		if ok || e != (api.Entry{}) {
			t.Errorf("Find at %d: %s, %v", seq, brief(list(e)), ok)
		}
	} else {
		version := slices.IndexFunc(three(), func(e api.Entry) bool { return e.Key == "k" && e.Seq == want })
		all = append(all, three()[version])
		if !ok || e != all[0] {
			t.Errorf("Find at %d: %s, %v; not %d", seq, brief(list(e)), ok, want)
		}
	}
	if got := Visible(three(), alone("k"), seq); !slices.Equal(got, all) {
		t.Errorf("Visible at %d: %s; not %s", seq, brief(got), brief(all))
	}
	if seq >= 15 {
		all = append(append(list(put("j", 15)), all...), put("k\x00", 15))
	}
	if got := Visible(three(), api.Span{}, seq); !slices.Equal(got, all) {
		t.Errorf("Visible of all at %d: %s; not %s", seq, brief(got), brief(all))
	}
}

// TestVersionsAtEachSeq asks below 0, at 0, below all, at each, between and above all.
func TestVersionsAtEachSeq(t *testing.T) {
	for seq, want := range map[int]int{
		math.MinInt: 0, -30: 0, -1: 0, 0: 0, 1: 0, 9: 0, 10: 10, 11: 10, 14: 10, 15: 10, 19: 10, 20: 20, 21: 20, 29: 20, 30: 30, 31: 30, 1<<30 - 1: 30, 1 << 30: 30, 1<<30 + 1: 30, math.MaxInt: 30,
	} {
		told(t, seq, want)
	}
}

// TestFindTellsDeletes as any other version.
func TestFindTellsDeletes(t *testing.T) {
	l := list(del("a", 2), put("a", 1), del("b", 1))
	for seq, want := range map[int]api.Entry{1: put("a", 1), 2: del("a", 2), 9: del("a", 2)} {
		if got, ok := Find(l, "a", seq); got != want || !ok {
			t.Errorf("Find of a at %d: %s, %v", seq, brief(list(got)), ok)
		}
	}
	if got := Visible(l, api.Span{}, 9); !slices.Equal(got, list(del("a", 2), del("b", 1))) {
		t.Errorf("Visible: %s", brief(got))
	}
}

func TestFindOfKeysThatAreNotThere(t *testing.T) {
	l := list(put("b", 5), put("bb", 5), put("d", 5))
	for _, key := range []string{"", "\x00", "a", "b\x00", "ba", "bbb", "c", "cc", "d\x00", "e", "B", long(600)} {
		for _, seq := range []int{math.MinInt, -1, 0, 4, 5, 6, 1 << 30, math.MaxInt} {
			if got, ok := Find(l, key, seq); got != (api.Entry{}) || ok {
				t.Errorf("Find of %q at %d: %s, %v", key, seq, brief(list(got)), ok)
			}
			if got := Visible(l, alone(key), seq); len(got) != 0 {
				t.Errorf("Visible of %q at %d: %s", key, seq, brief(got))
			}
		}
	}
}

func TestReadsOfNoEntries(t *testing.T) {
	for _, l := range lists(nil, list(), make([]api.Entry, 0, 3)) {
		for _, seq := range seqs(nil) {
			for _, key := range keys(nil) {
				finds(t, l, key, seq)
				shows(t, l, api.Span{From: key}, seq)
			}
		}
	}
}

// TestFindOfAll asks each list by each of its keys, and by those beside them, at each of its Seqs, and at those beside them.
func TestFindOfAll(t *testing.T) {
	for _, l := range samples() {
		for _, key := range keys(l) {
			for _, seq := range seqs(l) {
				finds(t, l, key, seq)
			}
		}
	}
}

// TestVisibleOfAll asks each list by all spans between two keys, a long one by some of these.
func TestVisibleOfAll(t *testing.T) {
	for _, l := range samples() {
		ends, all := keys(l), seqs(l)
		step := 1 + len(ends)/60
		for i := 0; i < len(ends); i += step {
			for j := i / step % step; j < len(ends); j += step {
				shows(t, l, api.Span{From: ends[i], To: ends[j]}, all[(5*i+3*j)%len(all)])
			}
		}
		for _, seq := range all {
			shows(t, l, api.Span{}, seq)
		}
	}
}

func TestVisibleOfSpans(t *testing.T) {
	l := list(put("a", 1), put("b", 3), put("b", 1), put("bb", 1), put("c", 1), del("d", 1))
	a, b, bb, c, d := l[0], l[1], l[3], l[4], l[5]
	for _, x := range []struct {
		from, to string
		want     []api.Entry
	}{
		{"", "", list(a, b, bb, c, d)},
		{"a", "", list(a, b, bb, c, d)},
		{"b", "", list(b, bb, c, d)},
		{"b\x00", "", list(bb, c, d)},
		{"d", "", list(d)},
		{"d\x00", "", nil},
		{"", "a", nil},
		{"", "a\x00", list(a)},
		{"", "b", list(a)},
		{"b", "b\x00", list(b)},
		{"b", "c", list(b, bb)},
		{"b", "cc", list(b, bb, c)},
		{"aa", "bc", list(b, bb)},
		{"a", "z", list(a, b, bb, c, d)},
		// An empty one, and such as end ahead of their begin.
		{"b", "b", nil},
		{"a", "a", nil},
		{"c", "b", nil},
		{"z", "a", nil},
		{"b\x00", "b", nil},
		{"bb", "b", nil},
	} {
		if got := Visible(l, api.Span{From: x.from, To: x.to}, 9); !slices.Equal(got, x.want) {
			t.Errorf("Visible from %q to %q: %s; not %s", x.from, x.to, brief(got), brief(x.want))
		}
		if got := Visible(l, api.Span{From: x.from, To: x.to}, 0); len(got) != 0 {
			t.Errorf("Visible from %q to %q at 0: %s", x.from, x.to, brief(got))
		}
	}
}

// TestReadsOfEntriesThatMayNotBe: entries have to be in order, and nothing else.
func TestReadsOfEntriesThatMayNotBe(t *testing.T) {
	for seq, want := range map[int]api.Entry{math.MaxInt: put("a", math.MaxInt), math.MaxInt - 1: put("a", 1<<30+1), 1 << 30: del("a", 0), 0: del("a", 0), -1: put("a", -1), -2: put("a", math.MinInt), math.MinInt: put("a", math.MinInt)} {
		if got, ok := Find(strange(), "a", seq); got != want || !ok {
			t.Errorf("Find at %d: %s, %v; not %s", seq, brief(list(got)), ok, brief(list(want)))
		}
	}
	if got, ok := Find(strange(), "", -1); got != del("", -4) || !ok {
		t.Errorf("Find of the empty key: %s, %v", brief(list(got)), ok)
	}
	if got := Visible(strange(), api.Span{To: "b"}, 2); !slices.Equal(got, list(put("", 0), del("a", 0))) {
		t.Errorf("Visible: %s", brief(got))
	}
}

// TestReadsOfManyEntries: a list may have more of them than a block.
func TestReadsOfManyEntries(t *testing.T) {
	l := row(5000)
	for _, e := range l {
		if got, ok := Find(l, e.Key, 5); got != e || !ok {
			t.Fatalf("Find of %q: %s, %v", e.Key, brief(list(got)), ok)
		}
	}
	for i := 0; i < len(l); i += 499 {
		if got := Visible(l, api.Span{From: l[i].Key}, 5); !slices.Equal(got, l[i:]) {
			t.Fatalf("Visible from %q: %d entries, not %d", l[i].Key, len(got), 5000-i)
		}
	}
}
