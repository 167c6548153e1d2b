package parser

import (
	"strings"
	"testing"

	"stagepost/api"
)

// way is an operation as it is said around its operands, and its rank in the chapter's rules: the higher, the closer.
type way struct {
	op   api.Op
	said string
	rank int
}

// twos are the operations of two; the comparisons alone may not stand side by side.
var twos = []way{
	{api.OpOr, "or", 1}, {api.OpAnd, "and", 2}, {api.OpEq, "=", 4}, {api.OpNe, "<>", 4}, {api.OpLt, "<", 4}, {api.OpLe, "<=", 4}, {api.OpGt, ">", 4}, {api.OpGe, ">=", 4},
	{api.OpAdd, "+", 5}, {api.OpSub, "-", 5}, {api.OpJoin, "||", 5}, {api.OpMul, "*", 6}, {api.OpDiv, "/", 6}, {api.OpMod, "%", 6},
}

// aheads stand ahead of one, behinds behind it.
var (
	aheads  = []way{{api.OpNot, "not", 3}, {api.OpNeg, "-", 7}}
	behinds = []way{{api.OpIsNull, "is null", 4}, {api.OpNotNull, "is not null", 4}}
)

// TestPairsOfOperationsOfTwo, with and without parentheses.
func TestPairsOfOperationsOfTwo(t *testing.T) {
	if len(twos) != int(api.OpOr-api.OpAdd)+1 {
		t.Fatalf("%d operations of two", len(twos))
	}
	for _, x := range twos {
		isSo(t, "a "+x.said+" b", do(x.op, a(), b()))
		for _, y := range twos {
			left := do(y.op, do(x.op, a(), b()), c())
			right := do(x.op, a(), do(y.op, b(), c()))
			bare := "a " + x.said + " b " + y.said + " c"
			onLeft := "( a " + x.said + " b ) " + y.said + " c"
			onRight := "a " + x.said + " ( b " + y.said + " c )"
			is(t, onLeft, left)
			is(t, onRight, right)
			switch {
			case x.rank == 4 && y.rank == 4:
				isNot(t, api.ErrSyntax, strings.LastIndex(bare, y.said), bare)
				printsExpr(t, onLeft, left)
				printsExpr(t, onRight, right)
			case x.rank >= y.rank:
				isSo(t, bare, left)
				printsExpr(t, onRight, right)
			default:
				isSo(t, bare, right)
				printsExpr(t, onLeft, left)
			}
		}
	}
}

// TestThreeInAChain stand to the left, if they are of one sign's rank.
func TestThreeInAChain(t *testing.T) {
	for _, x := range twos {
		for _, y := range twos {
			for _, z := range twos {
				if x.rank != y.rank || y.rank != z.rank || x.rank == 4 {
					continue
				}
				isSo(t, strings.Join([]string{"a", x.said, "b", y.said, "c", z.said, "a"}, " "), do(z.op, do(y.op, do(x.op, a(), b()), c()), a()))
			}
		}
	}
}

// TestOperationsAheadOfOne, in each operand of an operation of two.
func TestOperationsAheadOfOne(t *testing.T) {
	for _, x := range aheads {
		for _, y := range twos {
			whole := do(x.op, do(y.op, a(), b()))
			left := do(y.op, do(x.op, a()), b())
			right := do(y.op, a(), do(x.op, b()))
			bare := x.said + " a " + y.said + " b"
			is(t, x.said+" ( a "+y.said+" b )", whole)
			is(t, "( "+x.said+" a ) "+y.said+" b", left)
			is(t, "a "+y.said+" ( "+x.said+" b )", right)
			if x.rank > y.rank {
				isSo(t, bare, left)
				isSo(t, "a "+y.said+" "+x.said+" b", right)
				printsExpr(t, x.said+" ( a "+y.said+" b )", whole)
				continue
			}
			isSo(t, bare, whole)
			printsExpr(t, "( "+x.said+" a ) "+y.said+" b", left)
			printsExpr(t, "a "+y.said+" ( "+x.said+" b )", right)
			isNot(t, api.ErrSyntax, len("a "+y.said+" "), "a "+y.said+" "+x.said+" b")
		}
	}
}

// TestOperationsBehindOne, of each operation of two, and of those ahead of one.
func TestOperationsBehindOne(t *testing.T) {
	for _, x := range behinds {
		for _, y := range twos {
			whole := do(x.op, do(y.op, a(), b()))
			left := do(y.op, do(x.op, a()), b())
			right := do(y.op, a(), do(x.op, b()))
			bare := "a " + y.said + " b " + x.said
			is(t, "( a "+y.said+" b ) "+x.said, whole)
			is(t, "( a "+x.said+" ) "+y.said+" b", left)
			is(t, "a "+y.said+" ( b "+x.said+" )", right)
			switch {
			case y.rank > x.rank:
				isSo(t, bare, whole)
				isNot(t, api.ErrSyntax, len("a "+x.said+" "), "a "+x.said+" "+y.said+" b")
				printsExpr(t, "( a "+x.said+" ) "+y.said+" b", left)
				printsExpr(t, "a "+y.said+" ( b "+x.said+" )", right)
			case y.rank == x.rank:
				isNot(t, api.ErrSyntax, strings.LastIndex(bare, " is")+1, bare)
				printsExpr(t, "( a "+y.said+" b ) "+x.said, whole)
				printsExpr(t, "( a "+x.said+" ) "+y.said+" b", left)
				printsExpr(t, "a "+y.said+" ( b "+x.said+" )", right)
			default:
				isSo(t, bare, right)
				isSo(t, "a "+x.said+" "+y.said+" b", left)
				printsExpr(t, "( a "+y.said+" b ) "+x.said, whole)
			}
		}
		for _, y := range behinds {
			isSo(t, "( a "+y.said+" ) "+x.said, do(x.op, do(y.op, a())))
			isNot(t, api.ErrSyntax, len("a "+y.said+" "), "a "+y.said+" "+x.said)
		}
	}
}

func TestPairsOfOperationsOfOne(t *testing.T) {
	isSo(t, "not not a", do(api.OpNot, do(api.OpNot, a())))
	isSo(t, "not - a", do(api.OpNot, do(api.OpNeg, a())))
	isSo(t, "- ( not a )", do(api.OpNeg, do(api.OpNot, a())))
	isSo(t, "- - a", do(api.OpNeg, do(api.OpNeg, a())))
	for _, x := range behinds {
		isSo(t, "not a "+x.said, do(api.OpNot, do(x.op, a())))
		isSo(t, "( not a ) "+x.said, do(x.op, do(api.OpNot, a())))
		isSo(t, "- a "+x.said, do(x.op, do(api.OpNeg, a())))
		isSo(t, "- ( a "+x.said+" )", do(api.OpNeg, do(x.op, a())))
	}
}

// TestTheRanksAllTogether: in one expression what is closest is done first.
func TestTheRanksAllTogether(t *testing.T) {
	isSo(t, "a or b and not c = - a * b + c", do(api.OpOr, a(), do(api.OpAnd, b(), do(api.OpNot, do(api.OpEq, c(), do(api.OpAdd, do(api.OpMul, do(api.OpNeg, a()), b()), c()))))))
	isSo(t, "( ( ( ( a or b ) and c ) = a ) + b ) * c", do(api.OpMul, do(api.OpAdd, do(api.OpEq, do(api.OpAnd, do(api.OpOr, a(), b()), c()), a()), b()), c()))
	isSo(t, "a * ( b + ( c = ( a and ( b or c ) ) ) )", do(api.OpMul, a(), do(api.OpAdd, b(), do(api.OpEq, c(), do(api.OpAnd, a(), do(api.OpOr, b(), c()))))))
}

// TestOperandsOfEveryKind, behind and ahead of each operation, need no parentheses but where the chapter says so.
func TestOperandsOfEveryKind(t *testing.T) {
	for said, x := range map[string]api.Expr{
		"1": num(1), "- 1": num(-1), "'a'": text("a"), "true": yes(), "false": no(), "null": null(), "t . a": col("t", "a"), "count ( * )": do(api.OpCountAll), "sum ( a or b )": do(api.OpSum, do(api.OpOr, a(), b())),
	} {
		for _, y := range twos {
			isSo(t, said+" "+y.said+" b", do(y.op, x, b()))
			isSo(t, "b "+y.said+" "+said, do(y.op, b(), x))
			isSo(t, said+" "+y.said+" "+said, do(y.op, x, x))
		}
		for _, y := range behinds {
			isSo(t, said+" "+y.said, do(y.op, x))
		}
		isSo(t, "not "+said, do(api.OpNot, x))
		isSo(t, "count ( "+said+" )", do(api.OpCount, x))
		if said == "1" {
			said = "( 1 )"
		}
		isSo(t, "- "+said, do(api.OpNeg, x))
	}
}
