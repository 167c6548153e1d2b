package parser

import (
	"slices"
	"strings"
	"testing"

	"stagepost/api"
)

// nest is a way to go one deeper: what it says ahead, and behind.
type nest struct {
	op            api.Op
	ahead, behind string
}

// nests are all of them.
var nests = []nest{
	{api.OpNone, "(", ")"}, {api.OpCount, "count (", ")"}, {api.OpSum, "sum(", ")"}, {api.OpMin, "min (", ")"}, {api.OpMax, "max(", ")"}, {api.OpNot, "not ", ""}, {api.OpNeg, "- ", ""},
}

// nested is x with n of them around it.
func (w nest) nested(n int, x string) string {
	return strings.Repeat(w.ahead, n) + x + strings.Repeat(w.behind, n)
}

func TestNestingOf40And41(t *testing.T) {
	for _, w := range nests {
		for _, x := range []string{"a", "t . a", "'a'", "null", "-5"} {
			whole := mustExpr(t, w.nested(40, x))
			for range 40 {
				if w.op == api.OpNone {
					break
				}
				if whole.Op != w.op || len(whole.Args) != 1 {
					t.Fatalf("%s is read as %+v", w.ahead, whole)
				}
				whole = whole.Args[0]
			}
			if !equal(whole, mustExpr(t, x)) {
				t.Errorf("40 times %s around %s: %+v", w.ahead, x, whole)
			}
			isNot(t, api.ErrDepth, 40*len(w.ahead), w.nested(41, x))
			isNot(t, api.ErrDepth, 40*len(w.ahead), w.nested(70, x))
			faults(t, api.ErrDepth, 7+40*len(w.ahead), "select "+w.nested(41, x)+" from t")
			mustParse(t, "select "+w.nested(40, x)+" from t")
		}
	}
}

// TestOneTooDeepIsToldAtItsToken, whatever stands behind, and also where the text ends there.
func TestOneTooDeepIsToldAtItsToken(t *testing.T) {
	for _, w := range nests {
		ahead := strings.Repeat(w.ahead, 40)
		for _, deeper := range []string{"(", "count", "sum", "min", "max", "not", "-"} {
			if deeper == "not" && w.op == api.OpNeg {
				isNot(t, api.ErrSyntax, len(ahead), ahead+"not a") // there is no way to it
				continue
			}
			isNot(t, api.ErrDepth, len(ahead), ahead+deeper)
			isNot(t, api.ErrDepth, len(ahead), ahead+deeper+" a")
			isNot(t, api.ErrDepth, len(ahead), ahead+deeper+" ) 9223372036854775808")
			isNot(t, api.ErrDepth, len(ahead), ahead+deeper+" ( * )")
		}
		// What goes no deeper may be there.
		for _, x := range []string{"a", "5", "-5", "- 9223372036854775808", "'a'", "true"} {
			mustExpr(t, ahead+x+strings.Repeat(w.behind, 40))
		}
		isNot(t, api.ErrSyntax, len(ahead), ahead)
		isNot(t, api.ErrSyntax, len(ahead), ahead+")")
		isNot(t, api.ErrSyntax, len(ahead), ahead+"and")
		isNot(t, api.ErrNumber, len(ahead), ahead+"9223372036854775809")
	}
}

func TestTheMinusOfANumberGoesNoDeeper(t *testing.T) {
	mustExpr(t, strings.Repeat("-", 41)+"5")
	isNot(t, api.ErrDepth, 40, strings.Repeat("-", 42)+"5")
	mustExpr(t, strings.Repeat("-", 40)+"a")
	isNot(t, api.ErrDepth, 40, strings.Repeat("-", 41)+"a")
	isNot(t, api.ErrDepth, 40, strings.Repeat("-", 41))
	mustExpr(t, strings.Repeat("-", 39)+"(5)")
	isNot(t, api.ErrDepth, 40, strings.Repeat("-", 40)+"(5)")
	// One between two operands goes no deeper either.
	mustExpr(t, strings.Repeat("(", 40)+"a - b - c - 5 - -5"+strings.Repeat(")", 40))
	isNot(t, api.ErrDepth, 44, strings.Repeat("(", 40)+"a - - b"+strings.Repeat(")", 40))
}

// TestWhatGoesNoDeeper: IS NOT NULL, operations of two, a function's own parentheses.
func TestWhatGoesNoDeeper(t *testing.T) {
	in := nests[0].nested
	mustExpr(t, in(40, "a is not null"))
	mustExpr(t, in(40, "a or b and c = a + b * c"))
	mustExpr(t, in(39, "count ( * )"))
	mustExpr(t, in(39, "not a"))
	mustExpr(t, "a"+strings.Repeat(" + a", 1000))
	mustExpr(t, "(a)"+strings.Repeat(" + (a)", 1000))
	mustExpr(t, "not a"+strings.Repeat(" and not a", 1000))
	mustExpr(t, "- a"+strings.Repeat(" * - a", 1000))
	mustExpr(t, "sum(a)"+strings.Repeat(" + sum(a)", 1000))
	isNot(t, api.ErrDepth, 40, in(40, "not a is not null"))
	isNot(t, api.ErrDepth, 40, in(40, "count ( * )"))
	isNot(t, api.ErrDepth, 40, in(40, "(a)"))
}

// TestDeepIsOnlyWhatIsBeingRead: what is closed, or read to its end, counts no longer.
func TestDeepIsOnlyWhatIsBeingRead(t *testing.T) {
	for _, w := range nests {
		deep := w.nested(40, "a")
		between := " and "
		if w.op == api.OpNeg {
			between = " * "
		}
		mustExpr(t, deep+between+deep+between+deep)
		isNot(t, api.ErrDepth, len(deep+between)+40*len(w.ahead), deep+between+w.nested(41, "a"))
		mustParse(t, "select "+deep+" , "+deep+" from t join u on "+deep+" where "+deep+" order by "+deep+" , "+deep+" desc")
		mustParse(t, "insert into t values ( "+deep+" , "+deep+" ) , ( "+deep+" )")
		mustParse(t, "update t set a = "+deep+" , b = "+deep+" where "+deep)
		mustParse(t, "delete from t where "+deep)
		l, f := Script("delete from t where " + deep + "; delete from t where " + deep)
		if f != (api.Fault{}) || len(l) != 2 {
			t.Errorf("Script of two deep ones: %v", f)
		}
		at := len("delete from t where "+deep+"; delete from t where ") + 40*len(w.ahead)
		noScript(t, api.ErrDepth, at, "delete from t where "+deep+"; delete from t where "+w.nested(41, "a"))
	}
}

// TestTheListsOfAStatementGoNoDeeper: what is nested are expressions.
func TestTheListsOfAStatementGoNoDeeper(t *testing.T) {
	deep, deeper := nests[0].nested(40, "a"), nests[0].nested(41, "a")
	mustParse(t, "insert into t ( a ) values ( "+deep+" )")
	faults(t, api.ErrDepth, len("insert into t values ( ")+40, "insert into t values ( "+deeper+" )")
	faults(t, api.ErrDepth, len("insert into t values ( 1 ) , ( ")+40, "insert into t values ( 1 ) , ( "+deeper+" )")
}

// TestMixedNesting: whichever goes deeper, they count together.
func TestMixedNesting(t *testing.T) {
	m := newMaker(7)
	for range 500 {
		var l []nest
		for range 41 {
			w := nests[m.Intn(len(nests))]
			if n := len(l); w.op == api.OpNot && n > 0 && l[n-1].op == api.OpNeg {
				w = nests[0]
			}
			l = append(l, w)
		}
		s, at := "a", 0
		for i, w := range slices.Backward(l) {
			s = w.ahead + s + w.behind
			if i < 40 {
				at += len(w.ahead)
			}
			if i == 1 {
				if _, f := Expr(s); f != (api.Fault{}) {
					t.Errorf("Expr of %q: %v", s, f)
				}
			}
		}
		isNot(t, api.ErrDepth, at, s)
	}
}

// TestPrintOfDeepOnes: what is told is as deep as it must be.
func TestPrintOfDeepOnes(t *testing.T) {
	x, y := a(), a()
	for range 40 {
		x, y = do(api.OpSub, b(), x), do(api.OpSub, y, b())
	}
	printsExpr(t, strings.Repeat("b - ( ", 39)+"b - a"+strings.Repeat(" )", 39), x)
	printsExpr(t, "a"+strings.Repeat(" - b", 40), y)
	x = do(api.OpSub, b(), x)
	printsExpr(t, strings.Repeat("b - ( ", 40)+"b - a"+strings.Repeat(" )", 40), x)
	refusesExpr(t, do(api.OpSub, b(), x))
	for _, w := range nests[1:] {
		x := a()
		for range 40 {
			x = do(w.op, x)
		}
		isSo(t, told(w, 40), x)
		refusesExpr(t, do(w.op, x))
	}
}

// told is a way to go deeper as it is told, n times around a.
func told(w nest, n int) string {
	ahead := strings.TrimSpace(strings.ReplaceAll(w.ahead, "(", " ( "))
	return strings.Join(strings.Fields(strings.Repeat(ahead+" ", n)+"a"+strings.Repeat(" "+w.behind, n)), " ")
}
