package parser

import (
	"math"
	"strings"
	"testing"

	"stagepost/api"
)

func TestLiterals(t *testing.T) {
	isSo(t, "null", null())
	isSo(t, "true", yes())
	isSo(t, "false", no())
	is(t, "NULL", null())
	is(t, "True", yes())
	is(t, "FALSE", no())
	isSo(t, "''", text(""))
	isSo(t, "'a'", text("a"))
	isSo(t, "'it''s'", text("it's"))
	isSo(t, "'NULL'", text("NULL"))
	isSo(t, "'é世😀'", text("é世😀"))
	isSo(t, "'"+strings.Repeat("x", 64)+"'", text(strings.Repeat("x", 64)))
	isSo(t, strings.Repeat("'", 130), text(strings.Repeat("'", 64)))
	isSo(t, "0", num(0))
	isSo(t, "7", num(7))
	is(t, "007", num(7))
	is(t, "( 7 )", num(7))
	is(t, "((('a')))", text("a"))
}

// TestTextsAreNoWordsAndNoSigns, whatever they say.
func TestTextsAreNoWordsAndNoSigns(t *testing.T) {
	for _, s := range pieces() {
		if s[0] == '\'' {
			continue
		}
		isSo(t, "'"+s+"'", text(s))
		isNot(t, api.ErrSyntax, 2, "a '"+s+"' b")
		isNot(t, api.ErrSyntax, 2, "a '"+s+"'")
		faults(t, api.ErrSyntax, 0, "'"+s+"' a")
		faults(t, api.ErrSyntax, 9, "select a '"+s+"' from t")
		faults(t, api.ErrSyntax, 7, "commit '"+s+"'")
		faults(t, api.ErrSyntax, 6, "begin '"+s+"'")
		reads(t, "select '"+s+"' from t", of1(func(x *api.Stmt) { x.Items = items(text(s)) }))
	}
}

func TestColumns(t *testing.T) {
	isSo(t, "a", col("a"))
	isSo(t, "t . a", col("t", "a"))
	is(t, "T.A", col("t", "a"))
	is(t, "(t.a)", col("t", "a"))
	isSo(t, "a . a = b . a", do(api.OpEq, col("a", "a"), col("b", "a")))
	isSo(t, strings.Repeat("z", 32)+" . "+strings.Repeat("_", 32), col(strings.Repeat("z", 32), strings.Repeat("_", 32)))
	for _, s := range []string{"a . ^", "^. a", "a . ^. b", "a . b ^. c", "a . ^1", "a . ^'b'", "a . ^( b )", "a . ^select", "^select . a", "a ^b", "1 ^. a", "( a ) ^. b", "a . ^*", "'t' ^. a", "true ^. a", "a . ^true", "count ^. a"} {
		isNotAt(t, api.ErrSyntax, s)
	}
}

func TestAggregates(t *testing.T) {
	isSo(t, "count ( * )", do(api.OpCountAll))
	isSo(t, "count ( a )", do(api.OpCount, a()))
	isSo(t, "sum ( a )", do(api.OpSum, a()))
	isSo(t, "min ( a )", do(api.OpMin, a()))
	isSo(t, "max ( a )", do(api.OpMax, a()))
	isSo(t, "sum ( a or b )", do(api.OpSum, do(api.OpOr, a(), b())))
	is(t, "SUM((a))", do(api.OpSum, a()))
	isSo(t, "count ( count ( * ) )", do(api.OpCount, do(api.OpCountAll)))
	isSo(t, "min ( max ( a ) + 1 ) * - sum ( - 1 )", do(api.OpMul, do(api.OpMin, do(api.OpAdd, do(api.OpMax, a()), num(1))), do(api.OpNeg, do(api.OpSum, num(-1)))))
	isSo(t, "count ( a * b )", do(api.OpCount, do(api.OpMul, a(), b())))
	for _, s := range []string{
		"count ^", "count ^a", "count ^*", "count ( ^)", "count ( * ^* )", "count ( * ^a )", "count ( * ^, a )", "count ( ( ^* ) )", "count ( a ^, b )", "count ( a ^b )", "count ( a^", "count ( *^", "count ( a ) ^( b )", "count ^. a",
		"sum ( ^* )", "min ( ^* )", "max ( ^* )", "sum ^a", "sum ( ^)", "min ( a ^, b )", "max ( a^", "sum ( a ^; )", "count ( distinct ^a )", "avg ^( a )",
	} {
		isNotAt(t, api.ErrSyntax, s)
	}
}

// TestMinus: ahead of a number it belongs to the number, elsewhere it is OpNeg or OpSub.
func TestMinus(t *testing.T) {
	isSo(t, "- 5", num(-5))
	is(t, "-5", num(-5))
	is(t, "-\n05", num(-5))
	is(t, "-0", num(0))
	is(t, "- 000", num(0))
	is(t, "(-5)", num(-5))
	isSo(t, "- ( 5 )", do(api.OpNeg, num(5)))
	is(t, "-((5))", do(api.OpNeg, num(5)))
	isSo(t, "- ( 0 )", do(api.OpNeg, num(0)))
	isSo(t, "- - 5", do(api.OpNeg, num(-5)))
	is(t, "-(-5)", do(api.OpNeg, num(-5)))
	is(t, "- -0", do(api.OpNeg, num(0)))
	isSo(t, "- - - 5", do(api.OpNeg, do(api.OpNeg, num(-5))))
	isSo(t, "- - ( 5 )", do(api.OpNeg, do(api.OpNeg, num(5))))
	isSo(t, "- a", do(api.OpNeg, a()))
	isSo(t, "- - a", do(api.OpNeg, do(api.OpNeg, a())))
	isSo(t, "- t . a", do(api.OpNeg, col("t", "a")))
	isSo(t, "- 'a'", do(api.OpNeg, text("a")))
	isSo(t, "- null", do(api.OpNeg, null()))
	isSo(t, "- true", do(api.OpNeg, yes()))
	isSo(t, "- count ( * )", do(api.OpNeg, do(api.OpCountAll)))
	isSo(t, "- ( a + b )", do(api.OpNeg, do(api.OpAdd, a(), b())))
	isSo(t, "- ( not a )", do(api.OpNeg, do(api.OpNot, a())))
	isSo(t, "a - 5", do(api.OpSub, a(), num(5)))
	isSo(t, "a - - 5", do(api.OpSub, a(), num(-5)))
	isSo(t, "a - - - 5", do(api.OpSub, a(), do(api.OpNeg, num(-5))))
	isSo(t, "a - - ( 5 )", do(api.OpSub, a(), do(api.OpNeg, num(5))))
	isSo(t, "5 - 5", do(api.OpSub, num(5), num(5)))
	is(t, "5-5", do(api.OpSub, num(5), num(5)))
	is(t, "5 -5", do(api.OpSub, num(5), num(5)))
	isSo(t, "- 5 - 5", do(api.OpSub, num(-5), num(5)))
	isSo(t, "- 5 * a", do(api.OpMul, num(-5), a()))
	isSo(t, "- a * b", do(api.OpMul, do(api.OpNeg, a()), b()))
	isSo(t, "- ( 5 ) * b", do(api.OpMul, do(api.OpNeg, num(5)), b()))
	isSo(t, "a * - 5", do(api.OpMul, a(), num(-5)))
	isSo(t, "a * - b", do(api.OpMul, a(), do(api.OpNeg, b())))
	isSo(t, "a = - 5", do(api.OpEq, a(), num(-5)))
	isSo(t, "- 5 is null", do(api.OpIsNull, num(-5)))
	isSo(t, "- a is null", do(api.OpIsNull, do(api.OpNeg, a())))
	isSo(t, "not - 5", do(api.OpNot, num(-5)))
	isSo(t, "not - a", do(api.OpNot, do(api.OpNeg, a())))
	for _, s := range []string{"- ^", "-^", "- - ^", "- ^+ 5", "- ^not a", "- ( ^", "- ( ^)", "- 5 ^5", "- 5 ^. a", "^+ 5", "a - ^", "a - ^* b", "5 ^a", "- ^;"} {
		isNotAt(t, api.ErrSyntax, s)
	}
}

func TestNumbersAtTheirLimits(t *testing.T) {
	isSo(t, "9223372036854775807", num(math.MaxInt64))
	isSo(t, "- 9223372036854775807", num(-math.MaxInt64))
	isSo(t, "- 9223372036854775808", num(math.MinInt64))
	is(t, "-0009223372036854775808", num(math.MinInt64))
	isSo(t, "- - 9223372036854775808", do(api.OpNeg, num(math.MinInt64)))
	isSo(t, "- ( 9223372036854775807 )", do(api.OpNeg, num(math.MaxInt64)))
	isSo(t, "a - 9223372036854775807", do(api.OpSub, a(), num(math.MaxInt64)))
	isSo(t, "a - - 9223372036854775808", do(api.OpSub, a(), num(math.MinInt64)))
	isSo(t, "9223372036854775807 - 9223372036854775807", do(api.OpSub, num(math.MaxInt64), num(math.MaxInt64)))
	for _, s := range []string{
		"^9223372036854775808", "( ^9223372036854775808 )", "- ( ^9223372036854775808 )", "- - ( ^9223372036854775808 )", "a - ^9223372036854775808", "5 - ^9223372036854775808", "( a ) - ^9223372036854775808", "- 5 - ^9223372036854775808", "'a' - ^9223372036854775808", "count ( * ) - ^9223372036854775808",
		"a + ^9223372036854775808", "a = ^9223372036854775808", "not ^9223372036854775808", "- 9223372036854775808 + ^9223372036854775808", "sum ( ^9223372036854775808 )", "^9223372036854775808 9", "^09223372036854775808",
		// Above 2^63 it is the lexer that refuses, wherever the number stands.
		"^9223372036854775809", "- ^9223372036854775809", "( ( ) ) ^9223372036854775809", "9223372036854775808 ^9223372036854775809",
	} {
		isNotAt(t, api.ErrNumber, s)
	}
	// Where no number fits, it does not matter which one it is.
	isNotAt(t, api.ErrSyntax, "a ^9223372036854775808")
	isNotAt(t, api.ErrSyntax, "a . ^9223372036854775808")
	isNotAt(t, api.ErrSyntax, "a is ^9223372036854775808")
	faultsAt(t, api.ErrSyntax, "select a from ^9223372036854775808")
	faultsAt(t, api.ErrSyntax, "^9223372036854775808")
	for _, s := range []string{
		"select ^9223372036854775808 from t", "select a from t where ^9223372036854775808", "select a from t join u on ^9223372036854775808", "select a from t order by ^9223372036854775808", "insert into t values ( 1 , ^9223372036854775808 )", "update t set a = ^9223372036854775808", "delete from t where a - ^9223372036854775808",
	} {
		faultsAt(t, api.ErrNumber, s)
		mustParse(t, strings.Replace(s, "^9223372036854775808", "- 9223372036854775808", 1))
		mustParse(t, strings.Replace(s, "^9223372036854775808", "9223372036854775807", 1))
	}
}

func TestLimitAtItsLimit(t *testing.T) {
	readsSo(t, "select a from t limit 1073741824", of1(func(s *api.Stmt) { s.Limit = 1 << 30 }))
	readsSo(t, "select a from t limit 1073741823", of1(func(s *api.Stmt) { s.Limit = 1<<30 - 1 }))
	reads(t, "select a from t limit 0000000000001073741824", of1(func(s *api.Stmt) { s.Limit = 1 << 30 }))
	faultsAt(t, api.ErrNumber, "select a from t limit ^1073741825")
	faultsAt(t, api.ErrNumber, "select a from t limit ^1073741825 1")
	faultsAt(t, api.ErrNumber, "select a from t limit ^4294967296")
	faultsAt(t, api.ErrNumber, "select a from t limit ^9223372036854775807")
	faultsAt(t, api.ErrNumber, "select a from t limit ^9223372036854775808")
	faultsAt(t, api.ErrNumber, "select a from t limit ^9223372036854775809") // the lexer's
	faultsAt(t, api.ErrSyntax, "select a from t limit ^- 9223372036854775808")
}

func TestNullnessAndNot(t *testing.T) {
	isSo(t, "a is null", do(api.OpIsNull, a()))
	isSo(t, "a is not null", do(api.OpNotNull, a()))
	isSo(t, "null is null", do(api.OpIsNull, null()))
	isSo(t, "a + b is null", do(api.OpIsNull, do(api.OpAdd, a(), b())))
	isSo(t, "not a", do(api.OpNot, a()))
	isSo(t, "not not a", do(api.OpNot, do(api.OpNot, a())))
	isSo(t, "not a is null", do(api.OpNot, do(api.OpIsNull, a())))
	isSo(t, "not a is not null", do(api.OpNot, do(api.OpNotNull, a())))
	isSo(t, "not a = b", do(api.OpNot, do(api.OpEq, a(), b())))
	isSo(t, "( not a ) = b", do(api.OpEq, do(api.OpNot, a()), b()))
	isSo(t, "a = ( not b )", do(api.OpEq, a(), do(api.OpNot, b())))
	isSo(t, "( not a ) is null", do(api.OpIsNull, do(api.OpNot, a())))
	isSo(t, "( a is null ) is null", do(api.OpIsNull, do(api.OpIsNull, a())))
	isSo(t, "( a = b ) is not null", do(api.OpNotNull, do(api.OpEq, a(), b())))
	isSo(t, "( a is null ) = b", do(api.OpEq, do(api.OpIsNull, a()), b()))
	isSo(t, "a = ( b is null )", do(api.OpEq, a(), do(api.OpIsNull, b())))
	isSo(t, "( a = b ) = c", do(api.OpEq, do(api.OpEq, a(), b()), c()))
	isSo(t, "a = ( b = c )", do(api.OpEq, a(), do(api.OpEq, b(), c())))
	isSo(t, "not a and not b or not c", do(api.OpOr, do(api.OpAnd, do(api.OpNot, a()), do(api.OpNot, b())), do(api.OpNot, c())))
	isSo(t, "not ( a and b )", do(api.OpNot, do(api.OpAnd, a(), b())))
	isSo(t, "a is null and b is not null", do(api.OpAnd, do(api.OpIsNull, a()), do(api.OpNotNull, b())))
	for _, s := range []string{
		"a is ^", "a is ^a", "a is ^true", "a is ^1", "a is ^'null'", "a is ^( null )", "a is not ^", "a is not ^a", "a is not ^not null", "a is null ^is null", "a is null ^= b", "a = b ^is null", "a is null ^null", "^is null", "a is null ^not", "a is null ^+ 1", "a ^null", "a ^not null", "a ^not b",
		"not ^", "not ^and a", "not ^= a", "not ^is null", "a = ^not b", "a + ^not b", "a * ^not b", "- ^not b", "a and not ^", "( not ^)", "a = b ^= c", "a < b ^> c", "a = ^= b", "a ^, b",
	} {
		isNotAt(t, api.ErrSyntax, s)
	}
}

// TestParenthesesLeaveNothingBehind, and stand in pairs.
func TestParenthesesLeaveNothingBehind(t *testing.T) {
	is(t, "(a)", a())
	is(t, "((((a))))", a())
	is(t, "(a)+(b)", do(api.OpAdd, a(), b()))
	is(t, "(a+b)", do(api.OpAdd, a(), b()))
	is(t, "((a)=((b)))", do(api.OpEq, a(), b()))
	is(t, "(a*b)+c", do(api.OpAdd, do(api.OpMul, a(), b()), c()))
	is(t, "(a-b)-c", do(api.OpSub, do(api.OpSub, a(), b()), c()))
	is(t, "(not a)", do(api.OpNot, a()))
	is(t, "not (a)", do(api.OpNot, a()))
	is(t, "(a is null)", do(api.OpIsNull, a()))
	for _, s := range []string{"(^", "( ^)", "^)", "( a^", "( a ) ^)", "( ( a )^", "a ^( b )", "( a ) ^( b )", "( a ) ^b", "( a ^b )", "( a ^, b )", "( ^, a )", "( a ^; )", "( ( ^) )", "a + ( ^", "a + ^)", "( a + ^)", "( ^* )"} {
		isNotAt(t, api.ErrSyntax, s)
	}
}

// TestAnExpressionAlone has nothing behind it, no ; either.
func TestAnExpressionAlone(t *testing.T) {
	for _, s := range []string{"a ^;", "a ^as b", "a ^, b", "a ^from t", "a ^desc", "a ^asc", "a ^b", "a ^1", "a ^'b'", "^;", "^*", "^select a from t", "a = b ^;", "count ( * ) ^;", "a ^)", "a = ^"} {
		isNotAt(t, api.ErrSyntax, s)
	}
	isNot(t, api.ErrSyntax, 0, "")
	isNot(t, api.ErrSyntax, 2, " \t")
}

func TestTheFirstTokenOfAnExpression(t *testing.T) {
	for _, s := range pieces() {
		_, f := Expr(s)
		switch s {
		case "a", "t", "x", "0", "1", "7", "9223372036854775807", "1073741824", "1073741825", "'a'", "'select'", "'('", "''", "true", "false", "null":
			if f != (api.Fault{}) {
				t.Errorf("Expr of %q: %v", s, f)
			}
		case "9223372036854775808":
			isNot(t, api.ErrNumber, 0, s)
		case "not", "-", "(", "count", "sum", "min", "max":
			isNot(t, api.ErrSyntax, len(s), s)
		default:
			isNot(t, api.ErrSyntax, 0, s)
		}
	}
}
