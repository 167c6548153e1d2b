package value

import (
	"math"
	"slices"
	"strings"
	"testing"

	"stagepost/api"
)

// These are the tests of Do's refusals, and of their order.

// fitting is n values of a kind that goes with op.
func fitting(op api.Op, n int) []api.Value {
	v := num(1)
	switch {
	case slices.Contains(logical, op) || op == api.OpNot:
		v = yes()
	case op == api.OpJoin:
		v = word("a")
	}
	return slices.Repeat(list(v), n)
}

func TestDoOfTooFewAndTooMany(t *testing.T) {
	for _, op := range operations {
		for n := range 5 {
			l := fitting(op, n)
			want := api.OK
			if n != Takes(op) {
				want = api.ErrArg
			}
			if got, e := Do(op, l...); e != want || e != api.OK && got != (api.Value{}) {
				t.Errorf("Do of %d and %d values: %v, %v", op, n, got, e)
			}
		}
		refuses(t, api.ErrArg, op, slices.Repeat(list(null()), 1000)...)
	}
}

func TestDoOfWhatIsNoOperation(t *testing.T) {
	for _, op := range others() {
		for n := range 4 {
			for _, v := range list(null(), yes(), num(1), word("a")) {
				refuses(t, api.ErrArg, op, slices.Repeat(list(v), n)...)
			}
		}
	}
}

func TestDoOfValuesThatMayNotBe(t *testing.T) {
	for _, bad := range noValues() {
		for _, op := range ofOneValue {
			refuses(t, api.ErrArg, op, bad)
		}
		for _, op := range ofTwoValues {
			refuses(t, api.ErrArg, op, bad, bad)
			for _, v := range list(null(), no(), yes(), num(0), num(math.MinInt64), word(""), word("a")) {
				refuses(t, api.ErrArg, op, bad, v)
				refuses(t, api.ErrArg, op, v, bad)
			}
		}
	}
}

func TestDoOfTheLongestText(t *testing.T) {
	long := word(strings.Repeat("é", api.MaxWord/2))
	wants(t, yes(), api.OpEq, long, long)
	wants(t, long, api.OpJoin, long, word(""))
	wants(t, yes(), api.OpNotNull, long)
}

// kindsThatGo says, for each operation of two, with which second kinds each first kind goes: in the order Null, Bool, Int, Text.
func kindsThatGo() map[api.Op][4]string {
	out := map[api.Op][4]string{api.OpJoin: {"n..t", "....", "....", "n..t"}}
	for _, op := range numeric {
		out[op] = [4]string{"n.i.", "....", "n.i.", "...."}
	}
	for _, op := range comparisons {
		out[op] = [4]string{"nbit", "nb..", "n.i.", "n..t"}
	}
	for _, op := range logical {
		out[op] = [4]string{"nb..", "nb..", "....", "...."}
	}
	return out
}

func valuesByKind() [][]api.Value {
	return [][]api.Value{{null()}, {no(), yes()}, {num(0), num(1), num(-1), num(math.MinInt64)}, {word(""), word("a"), word("1")}}
}

func TestKindsOfTwoValues(t *testing.T) {
	by := valuesByKind()
	for op, rows := range kindsThatGo() {
		for i, row := range rows {
			for j := range row {
				for _, a := range by[i] {
					for _, b := range by[j] {
						_, e := Do(op, a, b)
						if got := e == api.ErrType; got != (row[j] == '.') {
							t.Errorf("Do of %d, %v, %v: %v", op, a, b, e)
						}
					}
				}
			}
		}
	}
}

func TestKindsOfOneValue(t *testing.T) {
	for op, row := range map[api.Op]string{api.OpNot: "nb..", api.OpNeg: "n.i.", api.OpIsNull: "nbit", api.OpNotNull: "nbit"} {
		for i, l := range valuesByKind() {
			for _, v := range l {
				_, e := Do(op, v)
				if got := e == api.ErrType; got != (row[i] == '.') {
					t.Errorf("Do of %d, %v: %v", op, v, e)
				}
			}
		}
	}
}

// TestAnErrorOfTypeLeavesNoValue: of a Null, of what decides OpAnd and OpOr, of a second one that is 0.
func TestAnErrorOfTypeLeavesNoValue(t *testing.T) {
	refuses(t, api.ErrType, api.OpAdd, yes(), null())
	refuses(t, api.ErrType, api.OpAdd, null(), word("a"))
	refuses(t, api.ErrType, api.OpAnd, no(), num(0))
	refuses(t, api.ErrType, api.OpAnd, num(0), no())
	refuses(t, api.ErrType, api.OpAnd, null(), word(""))
	refuses(t, api.ErrType, api.OpOr, yes(), num(1))
	refuses(t, api.ErrType, api.OpOr, word("a"), yes())
	refuses(t, api.ErrType, api.OpOr, num(1), null())
	refuses(t, api.ErrType, api.OpDiv, word("a"), num(0))
	refuses(t, api.ErrType, api.OpMod, yes(), num(0))
	refuses(t, api.ErrType, api.OpJoin, null(), num(1))
	refuses(t, api.ErrType, api.OpNe, word("1"), num(1))
	refuses(t, api.ErrType, api.OpLt, no(), num(1))
	refuses(t, api.ErrType, api.OpNot, num(0))
	refuses(t, api.ErrType, api.OpNot, word("a"))
	refuses(t, api.ErrType, api.OpNeg, no())
	refuses(t, api.ErrType, api.OpNeg, word("1"))
}

func TestOrderOfErrors(t *testing.T) {
	bad := api.Value{Kind: api.Int, Int: math.MinInt64, Text: "a"}
	long := word(strings.Repeat("a", api.MaxWord))
	tooLong := word(strings.Repeat("a", api.MaxWord+1))
	refuses(t, api.ErrArg, api.OpAdd, yes(), word("a"), yes()) // too many, and ErrType
	refuses(t, api.ErrArg, api.OpNeg, num(math.MinInt64), num(0))
	refuses(t, api.ErrArg, api.OpDiv, yes(), bad) // one that may not be, and ErrType
	refuses(t, api.ErrArg, api.OpDiv, bad, num(0))
	refuses(t, api.ErrArg, api.OpSub, null(), bad) // a Null does not hide it
	refuses(t, api.ErrArg, api.OpAnd, no(), api.Value{Kind: api.Bool, Int: 2})
	refuses(t, api.ErrArg, api.OpOr, yes(), api.Value{Kind: api.Null, Int: 1})
	refuses(t, api.ErrArg, api.OpIsNull, api.Value{Kind: api.Null, Text: "a"})
	refuses(t, api.ErrArg, api.OpNotNull, api.Value{Kind: 4})
	refuses(t, api.ErrArg, api.OpEq, num(1), api.Value{Kind: 4}) // no kind, rather than another one
	refuses(t, api.ErrArg, api.OpJoin, tooLong, word("a"))       // ErrArg ahead of ErrLong
	refuses(t, api.ErrArg, api.OpJoin, tooLong, num(1))
	refuses(t, api.ErrType, api.OpJoin, long, num(1))
	refuses(t, api.ErrLong, api.OpJoin, long, word("a"))
	refuses(t, api.ErrZero, api.OpDiv, num(math.MinInt64), num(0))
}
