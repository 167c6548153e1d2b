package check

import (
	"reflect"
	"strconv"
	"strings"
	"testing"

	"stagepost/api"
	"stagepost/catalog"
	"stagepost/parser"
	"stagepost/value"
)

// example is the text of 15's examples; some has more tables: s shares the column a with t, wide has as many columns as there may be.
const (
	example = "create table t ( a int , b text , c bool not null , primary key ( b , a ) ) ; create unique index u on t ( c ) ; create index i on t ( b ) ;"
	some    = example + "create table s ( d int , a int , e bool , primary key ( d ) ) ; create index j on s ( e ) ; create table wide ( k1 int , k2 int , k3 int , k4 int , k5 int , k6 int , k7 int , k8 int , k9 int , k10 int , k11 text , k12 bool , primary key ( k1 ) ) ;"
)

func mustOf(t testing.TB, text string) api.Catalog {
	t.Helper()
	c, f := catalog.Of(text)
	if f != (api.Fault{}) {
		t.Fatalf("catalog.Of of %q: %v", short(text), f)
	}
	return c
}

func parsed(t testing.TB, text string) api.Stmt {
	t.Helper()
	s, f := parser.Parse(text)
	if f != (api.Fault{}) {
		t.Fatalf("Parse of %q: %v", short(text), f)
	}
	return s
}

// short is the beginning of a text, for a message.
func short(s string) string { return s[:min(len(s), 300)] }

// said is what Bind tells of an expression: each piece with its kind behind it (n, b, i or t), a column with # and its slot, too.
func said(x api.Expr) string {
	var b strings.Builder
	switch x.Op {
	case api.OpNone:
		return "none"
	case api.OpValue:
		l, _ := value.Literal(x.Value)
		b.WriteString(strings.ToLower(l))
	case api.OpName:
		if x.Table != "" {
			b.WriteString(x.Table + ".")
		}
		b.WriteString(x.Name + "#" + strconv.Itoa(x.Slot))
	default:
		var args []string
		for _, arg := range x.Args {
			args = append(args, said(arg))
		}
		b.WriteString(opName(x.Op) + "(" + strings.Join(args, " ") + ")")
	}
	return b.String() + ":" + "nbit"[x.Kind:x.Kind+1]
}

func opName(op api.Op) string {
	return strings.Fields("none value name add sub mul div mod join eq ne lt le gt ge and or not neg isnull notnull count* count sum min max")[op]
}

// saidStmt is what Bind tells of a statement, in the order in which it is written.
func saidStmt(s api.Stmt) string {
	var l []string
	tell := func(what string, all ...string) {
		if len(all) > 0 {
			l = append(l, what+" "+strings.Join(all, ", "))
		}
	}
	tell(strconv.Itoa(int(s.Kind)), s.Name)
	tell("items", each(s.Items, func(item api.Item) string {
		if item.All {
			return "*"
		}
		return said(item.Expr) + as(item.As)
	})...)
	tell("from", each(s.From, func(from api.Source) string {
		if from.On.Op == api.OpNone {
			return from.Table + as(from.As)
		}
		return from.Table + as(from.As) + " on " + said(from.On)
	})...)
	tell("names", s.Names...)
	tell("rows", each(s.Rows, func(row []api.Expr) string { return strings.Join(each(row, said), " ") })...)
	tell("sets", each(s.Sets, func(set api.Assign) string {
		return set.Name + "#" + strconv.Itoa(set.Slot) + " = " + said(set.Expr)
	})...)
	if s.Where.Op != api.OpNone {
		tell("where", said(s.Where))
	}
	tell("group", each(s.Group, said)...)
	tell("order", each(s.Order, func(by api.Order) string {
		if by.Desc {
			return said(by.Expr) + " desc"
		}
		return said(by.Expr)
	})...)
	return strings.Join(l, "; ")
}

func as(name string) string {
	if name == "" {
		return ""
	}
	return " as " + name
}

func each[T any](l []T, tell func(T) string) []string {
	var out []string
	for _, x := range l {
		out = append(out, tell(x))
	}
	return out
}

// asked is a statement's text, and what Bind tells of it.
type asked struct{ text, want string }

// bindSo sees to it that all statements are bound as they should be, over the catalog some. Of a SELECT and the like what is wanted begins behind the statement's kind and name.
func bindSo(t *testing.T, kind api.StmtKind, name string, all ...asked) {
	t.Helper()
	c := mustOf(t, some)
	for _, a := range all {
		s := parsed(t, a.text)
		b, e := Bind(c, s)
		want := strconv.Itoa(int(kind)) + " " + name + "; " + a.want
		if got := saidStmt(b); got != want || e != api.OK || b.Limit != s.Limit {
			t.Errorf("Bind of %q: %s, %v; want %s", short(a.text), got, e, want)
		}
		if m, me := modelBind(c, s); !equal(m, b) || me != e {
			t.Errorf("the model of %q: %s, %v; want %s", short(a.text), saidStmt(m), me, want)
		}
	}
}

// refuses sees to it that Bind and Slots refuse all statements so, over the catalog some.
func refuses(t *testing.T, want api.Errno, texts ...string) {
	t.Helper()
	c := mustOf(t, some)
	for _, text := range texts {
		s := parsed(t, text)
		refused(t, c, s, want)
		if _, e := modelBind(c, s); e != want {
			t.Errorf("the model of %q: %v, want %v", short(text), e, want)
		}
	}
}

func refused(t *testing.T, c api.Catalog, s api.Stmt, want api.Errno) {
	t.Helper()
	if b, e := Bind(c, s); e != want || !reflect.DeepEqual(b, api.Stmt{}) {
		t.Errorf("Bind of %s: %s, %v; want %v", short(saidStmt(s)), saidStmt(b), e, want)
	}
	if l, e := Slots(c, s); e != want || l != nil {
		t.Errorf("Slots of %s: %v, %v; want %v", short(saidStmt(s)), l, e, want)
	}
}

// goes sees to it that Bind takes all statements, over the catalog some.
func goes(t *testing.T, texts ...string) {
	t.Helper()
	for _, text := range texts {
		if _, e := Bind(mustOf(t, some), parsed(t, text)); e != api.OK {
			t.Errorf("Bind of %q: %v", short(text), e)
		}
	}
}

// equal says whether a and b are the same, none and empty lists being so.
func equal(a, b any) bool {
	return equalValues(reflect.ValueOf(a), reflect.ValueOf(b))
}

func equalValues(a, b reflect.Value) bool {
	switch a.Kind() {
	case reflect.Slice:
		if a.Len() != b.Len() {
			return false
		}
		for i := range a.Len() {
			if !equalValues(a.Index(i), b.Index(i)) {
				return false
			}
		}
		return true
	case reflect.Struct:
		for i := range a.NumField() {
			if !equalValues(a.Field(i), b.Field(i)) {
				return false
			}
		}
		return true
	}
	return a.Equal(b)
}

// The pieces of statements that no text gives.

func num(x int64) api.Expr {
	return api.Expr{Op: api.OpValue, Value: api.Value{Kind: api.Int, Int: x}}
}

func col(name string) api.Expr { return api.Expr{Op: api.OpName, Name: name} }

func do(op api.Op, args ...api.Expr) api.Expr { return api.Expr{Op: op, Args: args} }
