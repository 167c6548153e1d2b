package parser

import (
	"reflect"
	"strconv"
	"strings"
	"testing"

	"stagepost/api"
	"stagepost/lexer"
)

// Expressions as they are read.

func of(v api.Value) api.Expr { return api.Expr{Op: api.OpValue, Value: v} }

func num(x int64) api.Expr { return of(api.Value{Kind: api.Int, Int: x}) }

func text(s string) api.Expr { return of(api.Value{Kind: api.Text, Text: s}) }

func yes() api.Expr { return of(api.Value{Kind: api.Bool, Int: 1}) }

func no() api.Expr { return of(api.Value{Kind: api.Bool}) }

func null() api.Expr { return of(api.Value{}) }

// col is a column: its name, or its table's name and its own.
func col(names ...string) api.Expr {
	if len(names) == 2 {
		return api.Expr{Op: api.OpName, Table: names[0], Name: names[1]}
	}
	return api.Expr{Op: api.OpName, Name: names[0]}
}

// do is an operation, or an aggregate.
func do(op api.Op, args ...api.Expr) api.Expr { return api.Expr{Op: op, Args: args} }

func exprs(l ...api.Expr) []api.Expr { return l }

func names(l ...string) []string { return l }

// The pieces of a SELECT, as they are read.

func item(x api.Expr) api.Item { return api.Item{Expr: x} }

func items(l ...api.Expr) []api.Item {
	var out []api.Item
	for _, x := range l {
		out = append(out, item(x))
	}
	return out
}

func source(name string) api.Source { return api.Source{Table: name} }

// of1 is select a from t, to be changed.
func of1(change func(*api.Stmt)) api.Stmt {
	s := api.Stmt{Kind: api.Select, Items: items(col("a")), From: []api.Source{source("t")}, Limit: -1}
	change(&s)
	return s
}

// equal says whether a and b are the same, none and empty lists being so.
func equal(a, b any) bool {
	return equalValues(reflect.ValueOf(a), reflect.ValueOf(b))
}

func equalValues(a, b reflect.Value) bool {
	switch a.Kind() {
	case reflect.Slice:
		if a.Len() != b.Len() {
			return false
		}
		for i := range a.Len() {
			if !equalValues(a.Index(i), b.Index(i)) {
				return false
			}
		}
		return true
	case reflect.Struct:
		for i := range a.NumField() {
			if !equalValues(a.Field(i), b.Field(i)) {
				return false
			}
		}
		return true
	}
	return a.Equal(b)
}

// short is the beginning of a text, for a message.
func short(s string) string { return s[:min(len(s), 300)] }

// reads sees to it that Parse reads that statement, and that Print and Script do the same by it.
func reads(t *testing.T, s string, want api.Stmt) {
	t.Helper()
	got, f := Parse(s)
	if f != (api.Fault{}) || !equal(got, want) {
		t.Errorf("Parse of %q: %+v, %v; want %+v", short(s), got, f, want)
		return
	}
	if l, f := Script(s); f != (api.Fault{}) || len(l) != 1 || !equal(l[0], want) {
		t.Errorf("Script of %q: %+v, %v", short(s), l, f)
	}
	if !Same(got, want) {
		t.Errorf("Parse of %q is not the Same as it is", short(s))
	}
}

// readsSo sees to it that Parse reads that statement, and that Print tells it by just this text.
func readsSo(t *testing.T, s string, want api.Stmt) {
	t.Helper()
	reads(t, s, want)
	prints(t, s, want)
}

// faults sees to it that Parse refuses s so, at that place, with no statement.
func faults(t *testing.T, e api.Errno, place int, s string) {
	t.Helper()
	if got, f := Parse(s); f != (api.Fault{Err: e, At: place}) || !reflect.DeepEqual(got, api.Stmt{}) {
		t.Errorf("Parse of %q: %+v, %v; want %v at %d", short(s), got, f, e, place)
	}
}

// faultsAt sees to it that Parse refuses s, which has the place told by a ^ that is taken out.
func faultsAt(t *testing.T, e api.Errno, s string) {
	t.Helper()
	faults(t, e, strings.Index(s, "^"), strings.Replace(s, "^", "", 1))
}

// is sees to it that Expr reads that expression.
func is(t *testing.T, s string, want api.Expr) {
	t.Helper()
	got, f := Expr(s)
	if f != (api.Fault{}) || !equal(got, want) {
		t.Errorf("Expr of %q: %+v, %v; want %+v", short(s), got, f, want)
		return
	}
	if !SameExpr(got, want) {
		t.Errorf("Expr of %q is not the SameExpr as it is", short(s))
	}
}

// isSo sees to it that Expr reads that expression, and that PrintExpr tells it by just this text.
func isSo(t *testing.T, s string, want api.Expr) {
	t.Helper()
	is(t, s, want)
	printsExpr(t, s, want)
}

// isNot sees to it that Expr refuses s so, at that place, with no expression.
func isNot(t *testing.T, e api.Errno, place int, s string) {
	t.Helper()
	if got, f := Expr(s); f != (api.Fault{Err: e, At: place}) || !reflect.DeepEqual(got, api.Expr{}) {
		t.Errorf("Expr of %q: %+v, %v; want %v at %d", short(s), got, f, e, place)
	}
}

// isNotAt is isNot with the place told by a ^ that is taken out.
func isNotAt(t *testing.T, e api.Errno, s string) {
	t.Helper()
	isNot(t, e, strings.Index(s, "^"), strings.Replace(s, "^", "", 1))
}

func prints(t *testing.T, want string, s api.Stmt) {
	t.Helper()
	if got, e := Print(s); got != want || e != api.OK {
		t.Errorf("Print of %+v: %q, %v; want %q", s, short(got), e, short(want))
	}
}

func printsExpr(t *testing.T, want string, x api.Expr) {
	t.Helper()
	if got, e := PrintExpr(x); got != want || e != api.OK {
		t.Errorf("PrintExpr of %+v: %q, %v; want %q", x, short(got), e, short(want))
	}
}

func refuses(t *testing.T, s api.Stmt) {
	t.Helper()
	if got, e := Print(s); got != "" || e != api.ErrArg {
		t.Errorf("Print of %+v: %q, %v; want ErrArg", s, short(got), e)
	}
}

func refusesExpr(t *testing.T, x api.Expr) {
	t.Helper()
	if got, e := PrintExpr(x); got != "" || e != api.ErrArg {
		t.Errorf("PrintExpr of %+v: %q, %v; want ErrArg", x, short(got), e)
	}
}

func mustParse(t *testing.T, s string) api.Stmt {
	t.Helper()
	got, f := Parse(s)
	if f != (api.Fault{}) {
		t.Fatalf("Parse of %q: %v", short(s), f)
	}
	return got
}

func mustExpr(t *testing.T, s string) api.Expr {
	t.Helper()
	got, f := Expr(s)
	if f != (api.Fault{}) {
		t.Fatalf("Expr of %q: %v", short(s), f)
	}
	return got
}

func mustLex(t *testing.T, s string) []api.Token {
	t.Helper()
	l, f := lexer.Lex(s)
	if f != (api.Fault{}) {
		t.Fatalf("Lex of %q: %v", short(s), f)
	}
	return l
}

// times is n times what one says, parted by commas.
func times(n int, one string) string {
	return strings.TrimSuffix(strings.Repeat(one+",", n), ",")
}

// numbered is n names a1, a2, .. with end behind each, parted by commas.
func numbered(n int, end string) string {
	var l []string
	for i := range n {
		l = append(l, "a"+strconv.Itoa(i+1)+end)
	}
	return strings.Join(l, ",")
}

// full are statements that have, together, each piece of each rule, and each way of it.
func full() []string {
	return []string{
		"select * from t",
		"select a , b . c as d , * from t as x join u on a = 1 join v as y on true where b is null group by a , x . b order by a , b asc , c desc limit 5 ;",
		"select count ( * ) , count ( a ) , sum ( a ) , min ( a ) , max ( a ) from t where a is not null",
		"select a + b - c || d , a * b / c % d from t where a = b or a <> b and a < b or not a <= b and ( a > b ) or a >= b",
		"select - 1 , - a , - ( 1 ) , - - 1 , 'it''s' , null , false from t",
		"insert into t values ( 1 )",
		"insert into t ( a ) values ( true ) ;",
		"insert into t ( a , b ) values ( 1 , 'x' ) , ( - 2 , null )",
		"update t set a = a + 1",
		"update t set a = 1 , b = not c where a = 1 ;",
		"delete from t",
		"delete from t where a = 2",
		"create table t ( a int , primary key ( a ) )",
		"create table t ( a int not null , b text , c bool not null , primary key ( b , a ) ) ;",
		"create index i on t ( a )",
		"create unique index i on t ( a , b )",
		"begin", "commit ;", "rollback", "rollback to s", "savepoint s ;",
	}
}

// trimmed is a statement's text without the ; behind it.
func trimmed(s string) string {
	return strings.TrimSuffix(s, " ;")
}

// indexOf is where the ^ stands.
func indexOf(s string) int { return strings.Index(s, "^") }

// same is n times that statement.
func same(n int, s api.Stmt) []api.Stmt {
	var l []api.Stmt
	for range n {
		l = append(l, s)
	}
	return l
}

// script sees to it that Script reads these statements.
func script(t *testing.T, s string, want ...api.Stmt) {
	t.Helper()
	if got, f := Script(s); f != (api.Fault{}) || !equal(got, want) {
		t.Errorf("Script of %q: %+v, %v; want %+v", short(s), got, f, want)
	}
}

// noScript sees to it that Script refuses s so, at that place, with no statements.
func noScript(t *testing.T, e api.Errno, place int, s string) {
	t.Helper()
	if got, f := Script(s); f != (api.Fault{Err: e, At: place}) || len(got) != 0 {
		t.Errorf("Script of %q: %+v, %v; want %v at %d", short(s), got, f, e, place)
	}
}

// noScriptAt is noScript with the place told by a ^ that is taken out.
func noScriptAt(t *testing.T, e api.Errno, s string) {
	t.Helper()
	noScript(t, e, indexOf(s), strings.Replace(s, "^", "", 1))
}
