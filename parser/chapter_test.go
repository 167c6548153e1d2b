package parser

import (
	"strings"
	"testing"

	"stagepost/api"
)

func TestExamplesOfTheChapter(t *testing.T) {
	prints(t, "select a , ( b + 1 ) * 2 as c from t where not ( a = 1 and b is null ) limit 3",
		mustParse(t, "SELECT a, (b+1)*2 AS c FROM t WHERE NOT (a=1 AND b IS NULL) LIMIT 3;"))
	s := mustParse(t, "select a - b - c from t")
	if want := items(do(api.OpSub, do(api.OpSub, col("a"), col("b")), col("c"))); !equal(s.Items, want) {
		t.Errorf("the item: %+v; want %+v", s.Items, want)
	}
	is(t, "-5", num(-5))
	is(t, "-(5)", do(api.OpNeg, num(5)))
	is(t, "- -5", do(api.OpNeg, num(-5)))
	isNot(t, api.ErrNumber, 0, "9223372036854775808")
	faults(t, api.ErrSyntax, 7, "select from t")
	faults(t, api.ErrSyntax, 13, "select a from")
	faults(t, api.ErrSyntax, 0, "")
	isNot(t, api.ErrDepth, 40, strings.Repeat("(", 41))
	isNot(t, api.ErrSyntax, 6, "a = b = c")
	noScript(t, api.ErrLong, 384, strings.Repeat("begin;", 64)+"begin;")
	script(t, strings.Repeat("begin;", 64)+";;", same(64, api.Stmt{Kind: api.Begin})...)
	faults(t, api.ErrSyntax, 46, "insert into t values (1,1,1,1,1,1,1,1,1,1,1,1,")
	faults(t, api.ErrLong, 46, "insert into t values (1,1,1,1,1,1,1,1,1,1,1,1,1)")
}

// TestNumbersOfTheErrors: those that the chapter names.
func TestNumbersOfTheErrors(t *testing.T) {
	if _, e := Print(api.Stmt{}); e != 2 {
		t.Errorf("ErrArg: %d", e)
	}
	if _, e := PrintExpr(api.Expr{}); e != 2 {
		t.Errorf("ErrArg: %d", e)
	}
	for s, want := range map[string]api.Errno{
		strings.Repeat(" ", 65537): 3, "insert into t values (" + times(13, "1") + ")": 3, "#": 230, "'": 231, "'\xff'": 232, "9223372036854775809": 233,
		"select 9223372036854775808 from t": 233, "": 240, "select " + strings.Repeat("(", 41): 241,
	} {
		if _, f := Parse(s); f.Err != want {
			t.Errorf("Parse of %q: %d, want %d", short(s), f.Err, want)
		}
	}
}

// TestNumbersOfTheKinds: those that the chapter names, in its order.
func TestNumbersOfTheKinds(t *testing.T) {
	for i, s := range []string{
		"select a from t", "insert into t values ( 1 )", "update t set a = 1", "delete from t", "create table t ( a int , primary key ( a ) )",
		"create index i on t ( a )", "begin", "commit", "rollback", "savepoint s", "rollback to s",
	} {
		if got := mustParse(t, s); int(got.Kind) != i+1 {
			t.Errorf("the kind of %q: %d", s, got.Kind)
		}
	}
	if api.NoStmt != 0 {
		t.Error("NoStmt")
	}
}
