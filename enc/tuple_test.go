package enc

import (
	"math"
	"slices"
	"strings"
	"testing"

	"stagepost/api"
)

// notValues are values that may not be.
func notValues() []api.Value {
	return []api.Value{
		{Kind: api.Null, Int: 1},
		{Kind: api.Null, Int: -1},
		{Kind: api.Null, Text: "a"},
		{Kind: api.Null, Text: "\x00"},
		{Kind: api.Bool, Int: 2},
		{Kind: api.Bool, Int: -1},
		{Kind: api.Bool, Int: 256},
		{Kind: api.Bool, Int: math.MinInt64},
		{Kind: api.Bool, Int: 1, Text: "a"},
		{Kind: api.Bool, Text: "a"},
		{Kind: api.Int, Int: 7, Text: "a"},
		{Kind: api.Int, Text: "\x00"},
		{Kind: api.Text, Int: 1},
		{Kind: api.Text, Int: -1, Text: "a"},
		{Kind: api.Text, Text: strings.Repeat("a", api.MaxWord+1)},
		{Kind: api.Text, Text: strings.Repeat("\x00", api.MaxWord+1)},
		{Kind: api.Text, Text: strings.Repeat("a", api.MaxText)},
		{Kind: api.Text + 1},
		{Kind: api.Text + 1, Int: 1, Text: "a"},
		{Kind: 128},
		{Kind: 255},
	}
}

func TestCheck(t *testing.T) {
	for _, v := range edgeValues() {
		if e := Check(v); e != api.OK {
			t.Errorf("Check of %v: %v", v, e)
		}
	}
	for _, v := range notValues() {
		if e := Check(v); e != api.ErrArg {
			t.Errorf("Check of %v: %v", v, e)
		}
	}
	if e := Check(word(strings.Repeat("é", api.MaxWord/2))); e != api.OK {
		t.Errorf("Check counts something else than bytes: %v", e)
	}
	if e := Check(word(strings.Repeat("é", api.MaxWord/2) + "a")); e != api.ErrArg {
		t.Errorf("Check counts something else than bytes: %v", e)
	}
}

func TestCompareGoesByTheFirstThatAreUnlike(t *testing.T) {
	odd := api.Value{Kind: 9, Int: 1, Text: "a"}
	rising := [][]api.Value{
		nil,
		{null()},
		{null(), null()},
		{null(), num(3)},
		{{Kind: api.Null, Text: "a"}},
		{{Kind: api.Null, Int: 5}},
		{{Kind: api.Null, Int: 5, Text: "a"}},
		{truth(0)},
		{truth(1)},
		{{Kind: api.Bool, Int: 7}},
		{num(math.MinInt64)},
		{num(-2), num(5)},
		{num(-1)},
		{num(0)},
		{num(1)},
		{num(1), null()},
		{num(1), num(9)},
		{num(1), num(9), word("a")},
		{num(1), num(10)},
		{num(2)},
		{num(math.MaxInt64)},
		{{Kind: api.Int, Int: math.MaxInt64, Text: "a"}},
		{{Kind: api.Text, Int: -1, Text: "z"}},
		{word("")},
		{word("\x00")},
		{word("a")},
		{word("a"), word("z")},
		{word("a\x00")},
		{word("ab")},
		{word("b")},
		{word("é")},
		{word("\xff")},
		{word(strings.Repeat("\xff", api.MaxWord+9))},
		{{Kind: api.Text, Int: 1}},
		{{Kind: 9}},
		{{Kind: 9, Int: 1}},
		{odd},
		{odd, null()},
		{{Kind: 255, Int: math.MinInt64}},
		slices.Repeat(tuple(api.Value{Kind: 255, Int: math.MaxInt64}), api.MaxTuple+4),
	}
	for i, a := range rising {
		for j, b := range rising {
			want := 0
			if i < j {
				want = -1
			}
			if i > j {
				want = 1
			}
			if got := Compare(a, b); got != want {
				t.Errorf("Compare of %v and %v: %d, not %d", a, b, got, want)
			}
		}
	}
	if Compare(nil, []api.Value{}) != 0 {
		t.Errorf("Compare of two empty tuples")
	}
}

func TestTupleIsTheTextOfItsValues(t *testing.T) {
	for _, c := range []struct {
		l    []api.Value
		want string
	}{
		{nil, ""},
		{[]api.Value{}, ""},
		{tuple(null()), text(1)},
		{tuple(truth(0)), text(2, 0)},
		{tuple(truth(1)), text(2, 1)},
		{tuple(num(0)), text(3, 128, 0, 0, 0, 0, 0, 0, 0)},
		{tuple(num(1)), text(3, 128, 0, 0, 0, 0, 0, 0, 1)},
		{tuple(num(-1)), text(3, 127, 255, 255, 255, 255, 255, 255, 255)},
		{tuple(num(0x0102030405060708)), text(3, 129, 2, 3, 4, 5, 6, 7, 8)},
		{tuple(num(math.MaxInt64)), text(3, 255, 255, 255, 255, 255, 255, 255, 255)},
		{tuple(num(math.MinInt64)), text(3, 0, 0, 0, 0, 0, 0, 0, 0)},
		{tuple(word("")), text(4, 0, 1)},
		{tuple(word("a")), text(4, 97, 0, 1)},
		{tuple(word("\x00")), text(4, 0, 255, 0, 1)},
		{tuple(word("\x01")), text(4, 1, 0, 1)},
		{tuple(word("\xff")), text(4, 255, 0, 1)},
		{tuple(word("\x00\x01")), text(4, 0, 255, 1, 0, 1)},
		{tuple(word("\x00\xff")), text(4, 0, 255, 255, 0, 1)},
		{tuple(word("\x00\x00a")), text(4, 0, 255, 0, 255, 97, 0, 1)},
		{tuple(word(strings.Repeat("\x00", api.MaxWord))), "\x04" + strings.Repeat("\x00\xff", api.MaxWord) + "\x00\x01"},
		{tuple(word(strings.Repeat("a", api.MaxWord))), "\x04" + strings.Repeat("a", api.MaxWord) + "\x00\x01"},
		{tuple(null(), truth(1), num(-1), word("a")), text(1, 2, 1, 3, 127, 255, 255, 255, 255, 255, 255, 255, 4, 97, 0, 1)},
		{slices.Repeat(tuple(null()), api.MaxTuple), strings.Repeat("\x01", api.MaxTuple)},
	} {
		if got, e := Tuple(c.l); got != c.want || e != api.OK {
			t.Errorf("Tuple of %v: %q, %v", c.l, got, e)
		}
	}
}

// notTuples are lists that have no text, and what is said of them.
func notTuples() map[api.Errno][][]api.Value {
	out := map[api.Errno][][]api.Value{
		api.ErrLong: {
			slices.Repeat(tuple(null()), api.MaxTuple+1),
			slices.Repeat(tuple(api.Value{Kind: 9}), api.MaxTuple+1),
			slices.Repeat(tuple(word("a")), 100),
		},
	}
	for _, v := range notValues() {
		last := append(slices.Repeat(tuple(null()), api.MaxTuple-1), v)
		out[api.ErrArg] = append(out[api.ErrArg], tuple(v), tuple(v, num(1)), last)
	}
	return out
}

func TestTupleRefuses(t *testing.T) {
	for want, ls := range notTuples() {
		for _, l := range ls {
			if s, e := Tuple(l); s != "" || e != want {
				t.Errorf("Tuple of %v: %q, %v, not %v", l, s, e, want)
			}
		}
	}
}

func TestValuesRefusesWhatIsNoTuple(t *testing.T) {
	for _, s := range []string{
		text(0), text(5), text(128), text(255), "a",
		text(2), text(2, 2), text(2, 255), text(2, 0, 0),
		text(3), text(3, 128), text(3, 128, 0, 0, 0, 0, 0, 0), text(3, 128, 0, 0, 0, 0, 0, 0, 0, 0),
		text(4), text(4, 0), text(4, 1), text(4, 97), text(4, 97, 0), text(4, 97, 0, 255), text(4, 97, 0, 255, 0),
		text(4, 97, 0, 0), text(4, 0, 0, 1), text(4, 0, 2), text(4, 0, 254, 0, 1), text(4, 97, 0, 97, 0, 1), text(4, 255, 1),
		text(4, 97, 0, 1, 0), text(4, 97, 0, 1, 1, 5), text(1, 0), text(1, 1, 9),
		"\x04" + strings.Repeat("a", api.MaxWord+1) + "\x00\x01",
		"\x04" + strings.Repeat("\x00\xff", api.MaxWord+1) + "\x00\x01",
		"\x04" + strings.Repeat("a", api.MaxWord) + "\x00\xff\x00\x01",
		"\x04" + strings.Repeat("a", api.MaxWord),
		"\x04" + strings.Repeat("a", api.MaxWord) + "\x00",
		"\x04" + strings.Repeat("a", api.MaxText),
		strings.Repeat("\x01", api.MaxTuple+1),
		strings.Repeat("\x01", api.MaxTuple) + "\x00",
		strings.Repeat("\x04\x00\x01", api.MaxTuple+1),
		strings.Repeat("\x01", api.MaxText),
	} {
		if l, e := Values(s); len(l) != 0 || e != api.ErrBad {
			t.Errorf("Values of %q: %v, %v", s, l, e)
		}
	}
}

func TestValuesTakesWhatIsAtTheLimits(t *testing.T) {
	for _, c := range []struct {
		s    string
		want []api.Value
	}{
		{"", nil},
		{strings.Repeat("\x01", api.MaxTuple), slices.Repeat(tuple(null()), api.MaxTuple)},
		{"\x04" + strings.Repeat("\x00\xff", api.MaxWord) + "\x00\x01", tuple(word(strings.Repeat("\x00", api.MaxWord)))},
		{"\x04" + strings.Repeat("\xff", api.MaxWord) + "\x00\x01\x01", tuple(word(strings.Repeat("\xff", api.MaxWord)), null())},
		{text(1, 2, 1, 3, 127, 255, 255, 255, 255, 255, 255, 255, 4, 97, 0, 1), tuple(null(), truth(1), num(-1), word("a"))},
	} {
		if l, e := Values(c.s); !slices.Equal(l, c.want) || e != api.OK {
			t.Errorf("Values of %q: %v, %v", c.s, l, e)
		}
	}
}

// TestValuesOfAllShortTexts holds Values against the texts of all tuples of which such a text may be.
func TestValuesOfAllShortTexts(t *testing.T) {
	const most = 6
	alphabet := []byte{0, 1, 2, 4, 5, 97, 255}
	parts := tuple(null(), truth(0), truth(1))
	for _, s := range texts(most-3, alphabet...) {
		parts = append(parts, word(s))
	}
	want := map[string][]api.Value{"": nil}
	work := [][]api.Value{nil}
	for len(work) > 0 {
		l := work[0]
		work = work[1:]
		for _, v := range parts {
			longer := append(slices.Clone(l), v)
			if s := mustTuple(t, longer); len(s) <= most {
				want[s] = longer
				work = append(work, longer)
			}
		}
	}
	for _, s := range texts(most, alphabet...) {
		l, e := Values(s)
		w, ok := want[s]
		if !slices.Equal(l, w) || (e == api.OK) != ok || !ok && e != api.ErrBad {
			t.Fatalf("Values of %q: %v, %v", s, l, e)
		}
	}
}
