package value

import (
	"math"
	"testing"

	"stagepost/api"
)

func TestExamplesOfTheChapter(t *testing.T) {
	refuses(t, api.ErrOverflow, api.OpAdd, num(9223372036854775807), num(1))
	wants(t, num(-3), api.OpDiv, num(-7), num(2))
	wants(t, num(-1), api.OpMod, num(-7), num(2))
	refuses(t, api.ErrOverflow, api.OpDiv, num(math.MinInt64), num(-1))
	wants(t, num(0), api.OpMod, num(math.MinInt64), num(-1))
	refuses(t, api.ErrZero, api.OpDiv, num(1), num(0))
	wants(t, no(), api.OpAnd, null(), no())
	wants(t, null(), api.OpAnd, null(), yes())
	wants(t, null(), api.OpEq, null(), null())
	refuses(t, api.ErrType, api.OpEq, num(1), yes())
	refuses(t, api.ErrArg, api.OpAdd, num(1))
	wants(t, yes(), api.OpLt, word("a"), word("b"))
	givesKind(t, api.Bool, api.OpEq, api.Null, api.Int)
	givesKind(t, api.Text, api.OpJoin, api.Null, api.Null)
	givesError(t, api.ErrType, api.OpAdd, api.Bool, api.Null)
	saysLiteral(t, "'it''s'", word("it's"))
	saysLiteral(t, "-5", num(-5))
	saysLiteral(t, "TRUE", yes())
}

// TestNumbersOfTheErrors: the numbers that the chapter names.
func TestNumbersOfTheErrors(t *testing.T) {
	if _, e := Do(api.OpNot); e != 2 {
		t.Errorf("ErrArg: %d", e)
	}
	if _, e := Do(api.OpJoin, edgeValues()[len(edgeValues())-1], word("a")); e != 3 {
		t.Errorf("ErrLong: %d", e)
	}
	if _, e := Do(api.OpNot, num(1)); e != 220 {
		t.Errorf("ErrType: %d", e)
	}
	if _, e := Do(api.OpNeg, num(math.MinInt64)); e != 221 {
		t.Errorf("ErrOverflow: %d", e)
	}
	if _, e := Do(api.OpMod, num(1), num(0)); e != 222 {
		t.Errorf("ErrZero: %d", e)
	}
}
