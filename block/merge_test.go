package block

import (
	"fmt"
	"math/rand/v2"
	"slices"
	"testing"

	"stagepost/api"
)

// These are the tests of P7.3.

// dealt is l, each entry in one of n lists: those are in order, if l is.
func dealt(l []api.Entry, n int, seed uint64) [][]api.Entry {
	r := rand.New(rand.NewPCG(seed, 8))
	out := make([][]api.Entry, n)
	for _, e := range l {
		i := r.IntN(n)
		out[i] = append(out[i], e)
	}
	return out
}

// refused says that Merge answers this error, and nothing beside it.
func refused(t testing.TB, what string, want api.Errno, l ...[]api.Entry) {
	t.Helper()
	merges(t, l...)
	_, e := Merge(l)
	answers(t, "Merge of "+what, e, want)
}

func TestMergeOfNothing(t *testing.T) {
	for _, l := range [][][]api.Entry{nil, {}, {nil}, {{}}, {nil, {}, nil}, make([][]api.Entry, 500)} {
		if got, e := Merge(l); len(got) != 0 || e != api.OK {
			t.Errorf("Merge of %d empty lists: %s, %d", len(l), brief(got), e)
		}
	}
}

func TestMergeOfOneList(t *testing.T) {
	for _, l := range samples() {
		for _, x := range [][][]api.Entry{{l}, {nil, l}, {l, nil}, {nil, {}, l, nil}} {
			if got, e := Merge(x); !slices.Equal(got, l) || e != api.OK {
				t.Errorf("Merge of %s alone: %s, %d", brief(l), brief(got), e)
			}
		}
	}
}

// TestMergeOfManyLists: however the entries are dealt out, they come back.
func TestMergeOfManyLists(t *testing.T) {
	for seed, l := range samples() {
		for _, n := range []int{1, 2, 3, 7, 64, 300} {
			parts := dealt(l, n, uint64(seed))
			merges(t, parts...)
			if got, e := Merge(parts); !slices.Equal(got, l) || e != api.OK {
				t.Errorf("Merge of %d lists: %s, %d; not %s", n, brief(got), e, brief(l))
			}
			slices.Reverse(parts)
			if got, e := Merge(parts); !slices.Equal(got, l) || e != api.OK {
				t.Errorf("Merge of %d lists, turned about: %s, %d; not %s", n, brief(got), e, brief(l))
			}
		}
	}
}

func TestMergeOfShapes(t *testing.T) {
	l := row(40)
	for what, x := range map[string][][]api.Entry{
		"one behind the other":    {l[:20], l[20:]},
		"one ahead of the other":  {l[20:], l[:20]},
		"one within the other":    {slices.Concat(l[:10], l[30:]), l[10:30]},
		"a long and a short one":  {slices.Concat(l[:39], l[40:]), l[39:]},
		"the first one alone":     {l[1:], l[:1]},
		"three, one behind other": {l[30:], l[:10], l[10:30]},
	} {
		merges(t, x...)
		if got, e := Merge(x); !slices.Equal(got, l) || e != api.OK {
			t.Errorf("Merge, %s: %s, %d", what, brief(got), e)
		}
	}
	// The versions of a key, in several lists.
	merges(t, list(put("a", 5), put("a", 1), put("b", 2)), list(put("a", 4), del("a", 2), put("b", 3)), list(del("a", 3)))
	got, _ := Merge(lists(list(put("a", 5), put("a", 1)), list(put("a", 4), del("a", 2)), list(del("a", 3))))
	if !slices.Equal(got, list(put("a", 5), put("a", 4), del("a", 3), del("a", 2), put("a", 1))) {
		t.Errorf("Merge of versions: %s", brief(got))
	}
	// Neither what may be nor how many there are counts.
	merges(t, strange()[:5], strange()[5:], row(3000))
}

func TestMergeOfAListThatIsNotInOrder(t *testing.T) {
	for what, l := range map[string][]api.Entry{
		"rising Seqs":             list(put("a", 1), put("a", 2)),
		"one Seq":                 list(put("a", 1), put("a", 1)),
		"one Seq, other values":   list(put("a", 1), del("a", 1)),
		"falling keys":            list(put("b", 1), put("a", 1)),
		"the last two":            append(row(20), put("a", 1)),
		"two in the midst":        slices.Concat(row(5), row(3)),
		"one again, far behind":   append(row(20), row(1)...),
		"the empty key at an end": list(put("a", 1), put("", 1)),
	} {
		refused(t, what, api.ErrOrder, l)
		refused(t, what+", the first", api.ErrOrder, l, various(), nil)
		refused(t, what+", the last", api.ErrOrder, nil, various(), l)
	}
}

func TestMergeOfOneKeyWithOneSeqInTwoLists(t *testing.T) {
	e := put("k", 5)
	for what, other := range map[string]api.Entry{"the same": e, "another value": {Key: "k", Value: "other", Seq: 5}, "a delete": del("k", 5)} {
		refused(t, what, api.ErrThere, list(e), list(other))
		refused(t, what+", one far behind", api.ErrThere, list(put("a", 1), put("b", 1), e), list(other))
		refused(t, what+", others between", api.ErrThere, list(put("k", 9), e, put("k", 1)), list(put("k", 7)), list(put("k", 8), other, put("l", 1)))
		refused(t, what+", of many lists", api.ErrThere, append(dealt(row(100), 20, 1), list(e), list(other))...)
	}
	for _, l := range samples()[1:] {
		refused(t, "a list twice", api.ErrThere, l, l)
		refused(t, "a list thrice", api.ErrThere, l, nil, l, l)
		for i := range l {
			refused(t, "an entry again", api.ErrThere, l, l[i:i+1])
			refused(t, "an entry again, ahead", api.ErrThere, l[i:i+1], l)
		}
	}
	// Just a key, or just a Seq, may be there again.
	merges(t, list(put("a", 1), put("b", 1)), list(put("a", 2), put("b", 2)), list(put("c", 1)))
	if _, e := Merge(lists(list(put("a", 1)), list(put("a", 2)), list(put("b", 1)))); e != api.OK {
		t.Errorf("Merge of one key, of one Seq: %d", e)
	}
}

// TestMergeTellsTheFirstError: a list that is not in order comes ahead of an entry that is there twice, wherever they stand (rule 1).
func TestMergeTellsTheFirstError(t *testing.T) {
	twice, turned := list(put("a", 1)), list(put("c", 1), put("b", 1))
	refused(t, "both, the order last", api.ErrOrder, twice, twice, turned)
	refused(t, "both, the order first", api.ErrOrder, turned, twice, twice)
	refused(t, "both, the order between", api.ErrOrder, twice, turned, twice)
	refused(t, "both in the same lists", api.ErrOrder, list(put("a", 1), put("z", 1), put("y", 1)), list(put("a", 1)))
	refused(t, "one that is there twice in one list, and in another one", api.ErrOrder, list(put("a", 1), put("a", 1)), list(put("a", 1)))
}

// TestMergeEndsInTime: many lists with one entry each.
func TestMergeEndsInTime(t *testing.T) {
	l := row(3000)
	var parts [][]api.Entry
	for i := range l {
		at := (i * 1999) % len(l)
		parts = append(parts, l[at:at+1])
	}
	if got, e := Merge(parts); !slices.Equal(got, l) || e != api.OK {
		t.Errorf("Merge of %d lists: %d entries, %d", len(parts), len(got), e)
	}
	want := 0
	parts = nil
	for i := range 5 {
		var part []api.Entry
		for j := range 20000 {
			part = append(part, put(fmt.Sprintf("k%06d", j), 5-i))
		}
		want += len(part)
		parts = append(parts, part)
	}
	if got, e := Merge(parts); len(got) != want || !ordered(got) || e != api.OK {
		t.Errorf("Merge of 5 great lists: %d entries, %d", len(got), e)
	}
}
