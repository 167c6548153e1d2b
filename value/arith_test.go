package value

import (
	"math"
	"math/rand/v2"
	"testing"

	"stagepost/api"
)

const (
	least    = math.MinInt64
	greatest = math.MaxInt64
)

type sumOf struct {
	op         api.Op
	a, b, want int64
	e          api.Errno
}

func TestArithmetic(t *testing.T) {
	for _, c := range []sumOf{
		{api.OpAdd, 2, 3, 5, api.OK},
		{api.OpAdd, -2, 3, 1, api.OK},
		{api.OpAdd, greatest, 0, greatest, api.OK},
		{api.OpAdd, greatest - 1, 1, greatest, api.OK},
		{api.OpAdd, greatest, 1, 0, api.ErrOverflow},
		{api.OpAdd, 1, greatest, 0, api.ErrOverflow},
		{api.OpAdd, greatest, greatest, 0, api.ErrOverflow},
		{api.OpAdd, least, 0, least, api.OK},
		{api.OpAdd, least + 1, -1, least, api.OK},
		{api.OpAdd, least, -1, 0, api.ErrOverflow},
		{api.OpAdd, -1, least, 0, api.ErrOverflow},
		{api.OpAdd, least, least, 0, api.ErrOverflow},
		{api.OpAdd, least, greatest, -1, api.OK},
		{api.OpSub, 2, 3, -1, api.OK},
		{api.OpSub, 0, greatest, least + 1, api.OK},
		{api.OpSub, -1, greatest, least, api.OK},
		{api.OpSub, -2, greatest, 0, api.ErrOverflow},
		{api.OpSub, 0, least, 0, api.ErrOverflow},
		{api.OpSub, -1, least, greatest, api.OK},
		{api.OpSub, least, least, 0, api.OK},
		{api.OpSub, least, 1, 0, api.ErrOverflow},
		{api.OpSub, greatest, -1, 0, api.ErrOverflow},
		{api.OpSub, greatest, greatest, 0, api.OK},
		{api.OpMul, -6, 7, -42, api.OK},
		{api.OpMul, -6, -7, 42, api.OK},
		{api.OpMul, 0, least, 0, api.OK},
		{api.OpMul, least, 0, 0, api.OK},
		{api.OpMul, least, 1, least, api.OK},
		{api.OpMul, 1, least, least, api.OK},
		{api.OpMul, least, -1, 0, api.ErrOverflow},
		{api.OpMul, -1, least, 0, api.ErrOverflow},
		{api.OpMul, greatest, -1, least + 1, api.OK},
		{api.OpMul, -1, greatest, least + 1, api.OK},
		{api.OpMul, least + 1, -1, greatest, api.OK},
		{api.OpMul, least, least, 0, api.ErrOverflow},
		{api.OpMul, greatest, greatest, 0, api.ErrOverflow},
		{api.OpMul, 1 << 32, 1 << 32, 0, api.ErrOverflow}, // 2^64 wraps round to 0
		{api.OpMul, 1 << 62, 2, 0, api.ErrOverflow},
		{api.OpMul, 1 << 62, -2, least, api.OK},
		{api.OpMul, -1 << 62, 2, least, api.OK},
		{api.OpMul, -1 << 62, -2, 0, api.ErrOverflow},
		{api.OpMul, 3037000499, 3037000499, 9223372030926249001, api.OK},
		{api.OpMul, 3037000500, 3037000500, 0, api.ErrOverflow},
		{api.OpMul, -3037000500, 3037000500, 0, api.ErrOverflow},
		{api.OpDiv, 7, 2, 3, api.OK},
		{api.OpDiv, -7, 2, -3, api.OK},
		{api.OpDiv, 7, -2, -3, api.OK},
		{api.OpDiv, -7, -2, 3, api.OK},
		{api.OpDiv, 1, 2, 0, api.OK},
		{api.OpDiv, -1, 2, 0, api.OK},
		{api.OpDiv, 0, -5, 0, api.OK},
		{api.OpDiv, 0, 0, 0, api.ErrZero},
		{api.OpDiv, least, 0, 0, api.ErrZero},
		{api.OpDiv, least, -1, 0, api.ErrOverflow},
		{api.OpDiv, least, 1, least, api.OK},
		{api.OpDiv, least + 1, -1, greatest, api.OK},
		{api.OpDiv, greatest, -1, least + 1, api.OK},
		{api.OpDiv, least, greatest, -1, api.OK},
		{api.OpDiv, greatest, least, 0, api.OK},
		{api.OpDiv, least, least, 1, api.OK},
		{api.OpMod, 7, 2, 1, api.OK},
		{api.OpMod, -7, 2, -1, api.OK},
		{api.OpMod, 7, -2, 1, api.OK},
		{api.OpMod, -7, -2, -1, api.OK},
		{api.OpMod, 6, 3, 0, api.OK},
		{api.OpMod, -6, 3, 0, api.OK},
		{api.OpMod, 0, 0, 0, api.ErrZero},
		{api.OpMod, least, 0, 0, api.ErrZero},
		{api.OpMod, least, -1, 0, api.OK},
		{api.OpMod, greatest, -1, 0, api.OK},
		{api.OpMod, 5, -1, 0, api.OK},
		{api.OpMod, greatest, least, greatest, api.OK},
		{api.OpMod, least, greatest, -1, api.OK},
	} {
		if c.e != api.OK {
			refuses(t, c.e, c.op, num(c.a), num(c.b))
		} else {
			wants(t, num(c.want), c.op, num(c.a), num(c.b))
		}
	}
}

func TestOpposite(t *testing.T) {
	wants(t, num(-5), api.OpNeg, num(5))
	wants(t, num(5), api.OpNeg, num(-5))
	wants(t, num(0), api.OpNeg, num(0))
	wants(t, num(least+1), api.OpNeg, num(greatest))
	wants(t, num(greatest), api.OpNeg, num(least+1))
	refuses(t, api.ErrOverflow, api.OpNeg, num(least))
}

// likeTheModel holds each operation of two Ints against numbers without bounds.
func likeTheModel(t *testing.T, a, b int64) {
	t.Helper()
	for _, op := range numeric {
		want, wantE := modelNumber(op, a, b)
		if got, e := Do(op, num(a), num(b)); got != want || e != wantE {
			t.Fatalf("Do of %d, %d, %d: %v, %v; want %v, %v", op, a, b, got, e, want, wantE)
		}
	}
}

func TestArithmeticOfEdges(t *testing.T) {
	for _, a := range edgeInts() {
		for _, b := range edgeInts() {
			likeTheModel(t, a, b)
		}
	}
}

// TestProductsJustWithinAndJustBeyond: for each factor, those at which the product meets a limit, and their neighbours.
func TestProductsJustWithinAndJustBeyond(t *testing.T) {
	factors := edgeInts()
	for k := range 63 {
		x := int64(1) << k
		factors = append(factors, x-1, x, x+1, -x, -x-1, 1-x)
	}
	for _, a := range factors {
		if a == 0 {
			continue
		}
		for _, limit := range []int64{least, greatest} {
			for near := int64(-2); near <= 2; near++ {
				b := limit/a + near // may wrap round: another factor then
				likeTheModel(t, a, b)
				likeTheModel(t, b, a)
			}
		}
	}
}

// TestSmallArithmetic: all signs, all rests.
func TestSmallArithmetic(t *testing.T) {
	for a := int64(-20); a <= 20; a++ {
		for b := int64(-20); b <= 20; b++ {
			likeTheModel(t, a, b)
		}
	}
}

// TestArithmeticOfMany: numbers of all lengths, always the same ones.
func TestArithmeticOfMany(t *testing.T) {
	r := rand.New(rand.NewPCG(12, 1))
	next := func() int64 { return int64(r.Uint64()) >> r.IntN(64) }
	for range 100000 {
		likeTheModel(t, next(), next())
	}
}
