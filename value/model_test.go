package value

import (
	"bytes"
	"math/big"
	"slices"

	"stagepost/api"
)

// model is what the chapter says that Do answers, told another way: Ints are numbers without bounds, Bools and Nulls are tables.
func model(op api.Op, l []api.Value) (api.Value, api.Errno) {
	switch {
	case len(l) == 0 || !(len(l) == 2 && slices.Contains(ofTwoValues, op) || len(l) == 1 && slices.Contains(ofOneValue, op)):
		return api.Value{}, api.ErrArg
	case slices.ContainsFunc(l, func(v api.Value) bool { return !modelMayBe(v) }):
		return api.Value{}, api.ErrArg
	case !modelGoes(op, kindsOf(l)):
		return api.Value{}, api.ErrType
	}
	unknown := slices.Contains(l, null())
	switch {
	case op == api.OpIsNull:
		return modelBool(unknown), api.OK
	case op == api.OpNotNull:
		return modelBool(!unknown), api.OK
	case slices.Contains(logical, op) || op == api.OpNot:
		return modelLogic(op, l), api.OK
	case unknown:
		return null(), api.OK
	case slices.Contains(numeric, op):
		return modelNumber(op, l[0].Int, l[1].Int)
	case op == api.OpNeg:
		return modelNumber(api.OpSub, 0, l[0].Int)
	case op == api.OpJoin:
		joined := slices.Concat([]byte(l[0].Text), []byte(l[1].Text))
		if len(joined) > 64 {
			return api.Value{}, api.ErrLong
		}
		return word(string(joined)), api.OK
	}
	return modelBool(modelCompares(op, l[0], l[1])), api.OK
}

func modelBool(is bool) api.Value {
	if is {
		return yes()
	}
	return no()
}

func modelMayBe(v api.Value) bool {
	switch v {
	case null(), no(), yes(), num(v.Int):
		return true
	}
	return v == word(v.Text) && len(v.Text) <= 64
}

// modelGoes says whether values of these kinds go with op.
func modelGoes(op api.Op, l []api.Kind) bool {
	known := slices.DeleteFunc(slices.Clone(l), func(k api.Kind) bool { return k == api.Null })
	all := func(want api.Kind) bool {
		return !slices.ContainsFunc(known, func(k api.Kind) bool { return k != want })
	}
	switch {
	case slices.Contains(numeric, op) || op == api.OpNeg:
		return all(api.Int)
	case op == api.OpJoin:
		return all(api.Text)
	case slices.Contains(logical, op) || op == api.OpNot:
		return all(api.Bool)
	}
	return all(api.Bool) || all(api.Int) || all(api.Text)
}

// modelLogic takes unknown for what lies between false and true: OpAnd is the least, OpOr the greatest.
func modelLogic(op api.Op, l []api.Value) api.Value {
	scale := list(no(), null(), yes())
	var at []int
	for _, v := range l {
		at = append(at, slices.Index(scale, v))
	}
	switch op {
	case api.OpAnd:
		return scale[slices.Min(at)]
	case api.OpOr:
		return scale[slices.Max(at)]
	}
	return scale[2-at[0]]
}

func modelNumber(op api.Op, x, y int64) (api.Value, api.Errno) {
	a, b, out := big.NewInt(x), big.NewInt(y), new(big.Int)
	if y == 0 && (op == api.OpDiv || op == api.OpMod) {
		return api.Value{}, api.ErrZero
	}
	switch op {
	case api.OpAdd:
		out.Add(a, b)
	case api.OpSub:
		out.Sub(a, b)
	case api.OpMul:
		out.Mul(a, b)
	case api.OpDiv:
		out.Quo(a, b)
	case api.OpMod:
		out.Sub(a, new(big.Int).Mul(b, new(big.Int).Quo(a, b)))
	}
	if !out.IsInt64() {
		return api.Value{}, api.ErrOverflow
	}
	return num(out.Int64()), api.OK
}

func modelCompares(op api.Op, a, b api.Value) bool {
	order := big.NewInt(a.Int).Cmp(big.NewInt(b.Int))
	if a.Kind == api.Text {
		order = bytes.Compare([]byte(a.Text), []byte(b.Text))
	}
	true3 := map[api.Op][3]bool{ // of what is ahead, the same, behind
		api.OpEq: {false, true, false},
		api.OpNe: {true, false, true},
		api.OpLt: {true, false, false},
		api.OpLe: {true, true, false},
		api.OpGt: {false, false, true},
		api.OpGe: {false, true, true},
	}
	return true3[op][order+1]
}
