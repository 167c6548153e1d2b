package value

import (
	"math"
	"slices"
	"strings"
	"testing"

	"stagepost/api"
)

func null() api.Value { return api.Value{} }

func no() api.Value { return api.Value{Kind: api.Bool} }

func yes() api.Value { return api.Value{Kind: api.Bool, Int: 1} }

func num(x int64) api.Value { return api.Value{Kind: api.Int, Int: x} }

func word(s string) api.Value { return api.Value{Kind: api.Text, Text: s} }

func list(l ...api.Value) []api.Value { return l }

// The operations by what they take, as the chapter lists them.
var (
	numeric     = []api.Op{api.OpAdd, api.OpSub, api.OpMul, api.OpDiv, api.OpMod}
	comparisons = []api.Op{api.OpEq, api.OpNe, api.OpLt, api.OpLe, api.OpGt, api.OpGe}
	logical     = []api.Op{api.OpAnd, api.OpOr}
	ofTwoValues = slices.Concat(numeric, []api.Op{api.OpJoin}, comparisons, logical)
	ofOneValue  = []api.Op{api.OpNot, api.OpNeg, api.OpIsNull, api.OpNotNull}
	operations  = slices.Concat(ofTwoValues, ofOneValue)
)

// others are all that is no operation of the chapter: those of api beside them, and the numbers beyond OpMax.
func others() []api.Op {
	l := []api.Op{api.OpNone, api.OpValue, api.OpName, api.OpCountAll, api.OpCount, api.OpSum, api.OpMin, api.OpMax}
	for x := int(api.OpMax) + 1; x <= math.MaxUint8; x++ {
		l = append(l, api.Op(x))
	}
	return l
}

func kinds() []api.Kind { return []api.Kind{api.Null, api.Bool, api.Int, api.Text} }

// noKinds are all numbers that are no kind.
func noKinds() []api.Kind {
	var l []api.Kind
	for x := int(api.Text) + 1; x <= math.MaxUint8; x++ {
		l = append(l, api.Kind(x))
	}
	return l
}

func kindsOf(l []api.Value) []api.Kind {
	var out []api.Kind
	for _, v := range l {
		out = append(out, v.Kind)
	}
	return out
}

// noValues are values that may not be, at least one for each way of not being one.
func noValues() []api.Value {
	return list(
		api.Value{Kind: 4}, api.Value{Kind: 5, Int: 1}, api.Value{Kind: 255, Text: "a"},
		api.Value{Kind: api.Bool, Int: 2}, api.Value{Kind: api.Bool, Int: -1}, api.Value{Kind: api.Bool, Int: math.MinInt64}, api.Value{Kind: api.Bool, Int: 257},
		api.Value{Kind: api.Bool, Text: "a"}, api.Value{Kind: api.Bool, Int: 1, Text: "a"},
		api.Value{Kind: api.Null, Int: 1}, api.Value{Kind: api.Null, Int: -1}, api.Value{Kind: api.Null, Text: "a"},
		api.Value{Kind: api.Int, Text: "a"}, api.Value{Kind: api.Int, Int: 7, Text: "\x00"},
		api.Value{Kind: api.Text, Int: 1}, api.Value{Kind: api.Text, Int: -1, Text: "a"},
		word(strings.Repeat("a", api.MaxWord+1)), word(strings.Repeat("é", api.MaxWord/2)+"a"), word(strings.Repeat("'", 1000)),
	)
}

// edgeInts rise; they are those at which something of the arithmetic turns.
func edgeInts() []int64 {
	return []int64{
		math.MinInt64, math.MinInt64 + 1, math.MinInt64 + 2, math.MinInt64/2 - 1, math.MinInt64 / 2, math.MinInt64/2 + 1,
		-3037000500, -3037000499, math.MinInt32 - 1, math.MinInt32, -7, -3, -2, -1, 0, 1, 2, 3, 7, math.MaxInt32, math.MaxInt32 + 1,
		3037000499, 3037000500, math.MaxUint32, math.MaxInt64/2 - 1, math.MaxInt64 / 2, math.MaxInt64/2 + 1, math.MaxInt64 - 1, math.MaxInt64,
	}
}

// edgeTexts rise byte by byte: none, one that begins with another, bytes above 127, some that are no UTF-8.
func edgeTexts() []string {
	return []string{
		"", "\x00", "\x00\x00", "'", "''", "A", "a", "a\x00", "aa", "ab", "b\x00", strings.Repeat("b", api.MaxWord-1), strings.Repeat("b", api.MaxWord),
		"\x7f", "\x80", "\xc3", "é", "é\x00", "世", "\xed\xa0\x80", "\xf0\x9f", "\xff", "\xff\xff", strings.Repeat("\xff", api.MaxWord),
	}
}

// edgeValues are values that may be, in their order.
func edgeValues() []api.Value {
	l := list(null(), no(), yes())
	for _, x := range edgeInts() {
		l = append(l, num(x))
	}
	for _, s := range edgeTexts() {
		l = append(l, word(s))
	}
	return l
}

// lists are all lists of n of the values.
func lists(n int, values []api.Value) [][]api.Value {
	all := [][]api.Value{nil}
	for range n {
		var longer [][]api.Value
		for _, l := range all {
			for _, v := range values {
				longer = append(longer, append(slices.Clone(l), v))
			}
		}
		all = longer
	}
	return all
}

// wants sees to it that op makes want of the values.
func wants(t *testing.T, want api.Value, op api.Op, l ...api.Value) {
	t.Helper()
	if got, e := Do(op, l...); got != want || e != api.OK {
		t.Errorf("Do of %d, %v: %v, %v; want %v", op, l, got, e, want)
	}
}

// refuses sees to it that op is refused so, and that nothing else is answered.
func refuses(t *testing.T, want api.Errno, op api.Op, l ...api.Value) {
	t.Helper()
	if got, e := Do(op, l...); got != (api.Value{}) || e != want {
		t.Errorf("Do of %d, %v: %v, %v; want %v", op, l, got, e, want)
	}
}

// mustDo is what op makes of values of which it is not refused.
func mustDo(t *testing.T, op api.Op, l ...api.Value) api.Value {
	t.Helper()
	v, e := Do(op, l...)
	if e != api.OK {
		t.Fatalf("Do of %d, %v: %v", op, l, e)
	}
	return v
}
