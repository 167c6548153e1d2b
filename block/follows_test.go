package block

import (
	"bytes"
	"slices"
	"testing"

	"stagepost/api"
	"stagepost/mem"
)

// These are the tests of P7.5, and of what the calls have to do with one another and with the layer below.

func TestDecodeOfEncodeGivesTheEntriesBack(t *testing.T) {
	for what, l := range blocks() {
		b, e := Encode(l)
		if e != api.OK {
			t.Fatalf("Encode of %s: %d", what, e)
		}
		back, e := Decode(b)
		if e != api.OK || !slices.Equal(back, l) {
			t.Errorf("Decode of Encode of %s: %s, %d; not %s", what, brief(back), e, brief(l))
		}
		again, e := Encode(back)
		if e != api.OK || !bytes.Equal(again, b) {
			t.Errorf("Encode of Decode of Encode of %s: other bytes, %d", what, e)
		}
	}
}

// TestEncodeOfDecodeGivesTheBytesBack has blocks with a byte that is turned: what is still one has just these bytes.
func TestEncodeOfDecodeGivesTheBytesBack(t *testing.T) {
	blocks := 0
	for seed := range uint64(10) {
		b := plain(crowd(12, seed))
		for i := range b {
			for bit := range 8 {
				c := slices.Clone(b)
				c[i] ^= 1 << bit
				l, e := Decode(c)
				if e != api.OK {
					continue
				}
				blocks++
				if again, e := Encode(l); e != api.OK || !bytes.Equal(again, c) {
					t.Fatalf("Encode of Decode of %v: %v, %d", c, again, e)
				}
			}
		}
	}
	if blocks < 100 {
		t.Errorf("just %d were blocks", blocks)
	}
}

// puts is l without its deletes.
func puts(l []api.Entry) []api.Entry {
	return slices.DeleteFunc(slices.Clone(l), func(e api.Entry) bool { return e.Del })
}

// spans are some by which a list is asked.
func spans(l []api.Entry) []api.Span {
	all := []api.Span{{}, {From: "b"}, {To: "e"}, {From: "b", To: "e"}, {From: "c", To: "c"}, {From: "e", To: "b"}}
	for i, e := range l {
		all = append(all, alone(e.Key), api.Span{From: e.Key, To: l[len(l)-1-i].Key})
	}
	return all[:min(len(all), 40)]
}

// TestVisibleOfFoldIsVisible at MaxSeq, and at each Seq that is kept; with last, deletes may be missing.
func TestVisibleOfFoldIsVisible(t *testing.T) {
	for _, l := range samples() {
		for _, keep := range keeps(l) {
			all, last := Fold(l, keep, false), Fold(l, keep, true)
			for _, seq := range append([]int{1 << 30}, keep...) {
				want := Visible(l, api.Span{}, seq)
				if got := Visible(all, api.Span{}, seq); !slices.Equal(got, want) {
					t.Fatalf("Fold of %s, keep %v, at %d: %s; not %s", brief(l), keep, seq, brief(got), brief(want))
				}
				got := Visible(last, api.Span{}, seq)
				if !slices.Equal(puts(got), puts(want)) {
					t.Fatalf("Fold of %s, keep %v, with last, at %d: %s; not %s", brief(l), keep, seq, brief(got), brief(want))
				}
				for _, e := range got {
					if !slices.Contains(want, e) {
						t.Fatalf("Fold of %s, keep %v, with last, at %d has %s", brief(l), keep, seq, brief(list(e)))
					}
				}
			}
		}
	}
}

// TestVisibleOfFoldIsVisibleInSpans has some spans, and a few Seqs that are kept.
func TestVisibleOfFoldIsVisibleInSpans(t *testing.T) {
	for seed := range uint64(10) {
		l := crowd(40, seed)
		keep := []int{30, 90, 60}
		all, last := Fold(l, keep, false), Fold(l, keep, true)
		for _, s := range spans(l) {
			for _, seq := range append(keep, 1<<30) {
				want := Visible(l, s, seq)
				if got := Visible(all, s, seq); !slices.Equal(got, want) {
					t.Fatalf("at %d in %q: %s; not %s", seq, s, brief(got), brief(want))
				}
				if got := Visible(last, s, seq); !slices.Equal(puts(got), puts(want)) {
					t.Fatalf("with last at %d in %q: %s; not %s", seq, s, brief(got), brief(want))
				}
			}
		}
	}
}

// TestFoldIsInOrderAndOfTheList: nothing is added, nothing changes places, and folded once more it stays as it is.
func TestFoldIsInOrderAndOfTheList(t *testing.T) {
	for _, l := range samples() {
		for _, keep := range keeps(l) {
			for _, last := range []bool{false, true} {
				got := Fold(l, keep, last)
				if !ordered(got) || slices.ContainsFunc(got, func(e api.Entry) bool { return !slices.Contains(l, e) }) {
					t.Fatalf("Fold of %s, keep %v, last %v: %s", brief(l), keep, last, brief(got))
				}
				if again := Fold(got, keep, last); !slices.Equal(again, got) {
					t.Fatalf("Fold of Fold of %s, keep %v, last %v: %s; not %s", brief(l), keep, last, brief(again), brief(got))
				}
			}
		}
	}
}

// TestFindIsTheFirstOfVisible of that key alone.
func TestFindIsTheFirstOfVisible(t *testing.T) {
	for _, l := range samples() {
		for _, key := range keys(l) {
			for i, seq := range seqs(l) {
				if i%3 != 0 {
					continue
				}
				e, ok := Find(l, key, seq)
				all := Visible(l, alone(key), seq)
				if ok != (len(all) > 0) || ok && all[0] != e || len(all) > 1 {
					t.Fatalf("of %q at %d Find tells %s, %v, and Visible %s", key, seq, brief(list(e)), ok, brief(all))
				}
			}
		}
	}
}

// TestAsTheMemtable: what mem tells of entries that were added to it is what is told of their list.
func TestAsTheMemtable(t *testing.T) {
	for seed := range uint64(8) {
		l := append(crowd(40, seed), various()[11:]...)
		m, _ := mem.New([]int{2, 1, 3})
		for _, e := range l {
			m.Add(e)
		}
		l = slices.Collect(m.All())
		for _, seq := range seqs(l) {
			for _, key := range keys(l) {
				e, ok := m.Get(key, seq)
				if got, there := Find(l, key, seq); got != e || there != ok {
					t.Fatalf("Find of %q at %d: %s, %v; not %s, %v", key, seq, brief(list(got)), there, brief(list(e)), ok)
				}
			}
			for _, s := range spans(l) {
				if got, want := Visible(l, s, seq), m.Scan(s, seq); !slices.Equal(got, want) {
					t.Fatalf("Visible of %q at %d: %s; not %s", s, seq, brief(got), brief(want))
				}
			}
		}
	}
}

// TestAgainTheSame: what a call answers hangs on its arguments alone (P7), also behind calls that were refused (rule 3).
func TestAgainTheSame(t *testing.T) {
	for _, l := range samples() {
		parts, keep := dealt(l, 3, 5), []int{3, 50, 3}
		b, _ := Encode(l)
		found, there := Find(l, "a", 5)
		shown, all := Visible(l, api.Span{From: "a"}, 50), Fold(l, keep, true)
		together, _ := Merge(parts)
		for range 3 {
			refusedCalls(t)
			again, _ := Encode(l)
			foundAgain, thereAgain := Find(l, "a", 5)
			togetherAgain, _ := Merge(parts)
			if !bytes.Equal(again, b) || foundAgain != found || thereAgain != there || !slices.Equal(togetherAgain, together) {
				t.Fatalf("of %s another answer came", brief(l))
			}
			if !slices.Equal(Visible(l, api.Span{From: "a"}, 50), shown) || !slices.Equal(Fold(l, keep, true), all) {
				t.Fatalf("of %s another answer came", brief(l))
			}
		}
	}
}

// refusedCalls does some that answer errors.
func refusedCalls(t testing.TB) {
	t.Helper()
	answers(t, "Check", Check(nil), api.ErrArg)
	_, e := Encode(row(65))
	answers(t, "Encode", e, api.ErrLong)
	_, e = Decode(plain(row(9))[:70])
	answers(t, "Decode", e, api.ErrBad)
	_, e = Merge(lists(row(9), row(9)))
	answers(t, "Merge", e, api.ErrThere)
}
