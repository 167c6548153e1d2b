package check

import (
	"strings"
	"testing"

	"stagepost/api"
	"stagepost/parser"
)

// These are the tests of ErrArg: of catalogs that may not be, of statements that no text gives, and of CREATE.

func TestCreateIsRefused(t *testing.T) {
	for _, text := range []string{"create table x ( a int , primary key ( a ) )", "create table t ( a int , primary key ( a ) )", "create index x on t ( a )", "create unique index x on u ( zz )"} {
		refused(t, mustOf(t, some), parsed(t, text), api.ErrArg)
		refused(t, api.Catalog{}, parsed(t, text), api.ErrArg)
	}
}

func TestCatalogsThatMayNotBe(t *testing.T) {
	for name, spoil := range map[string]func(c *api.Catalog){
		"a number":       func(c *api.Catalog) { c.Tables[1].Number = 3 },
		"two names":      func(c *api.Catalog) { c.Tables[2].Name = "s" },
		"no name":        func(c *api.Catalog) { c.Tables[1].Name = "" },
		"a capital":      func(c *api.Catalog) { c.Tables[1].Columns[0].Name = "D" },
		"two columns":    func(c *api.Catalog) { c.Tables[1].Columns[1].Name = "d" },
		"no kind":        func(c *api.Catalog) { c.Tables[1].Columns[1].Kind = api.Null },
		"a kind":         func(c *api.Catalog) { c.Tables[1].Columns[1].Kind = api.Text + 1 },
		"a key":          func(c *api.Catalog) { c.Tables[1].Key[0] = 3 },
		"no key":         func(c *api.Catalog) { c.Tables[1].Key = nil },
		"a Null key":     func(c *api.Catalog) { c.Tables[1].Columns[0].NotNull = false },
		"an index":       func(c *api.Catalog) { c.Tables[1].Indexes[0].Columns[0] = -1 },
		"two indexes":    func(c *api.Catalog) { c.Tables[1].Indexes[0].Name = "u" },
		"no columns":     func(c *api.Catalog) { c.Tables[1].Columns = nil },
		"tables turned":  func(c *api.Catalog) { c.Tables[0], c.Tables[1] = c.Tables[1], c.Tables[0] },
		"one is missing": func(c *api.Catalog) { c.Tables = c.Tables[1:] },
	} {
		for _, text := range []string{"select a from t", "select * from u", "insert into t values ( 1 , 'x' , true )", "update t set a = 1", "delete from t", "begin", "commit", "rollback", "savepoint s", "rollback to s", "create index x on t ( a )"} {
			c := mustOf(t, some)
			spoil(&c)
			s := parsed(t, text)
			refused(t, c, s, api.ErrArg)
			if _, e := modelBind(c, s); e != api.ErrArg {
				t.Errorf("the model of %q over %s: %v", text, name, e)
			}
		}
	}
}

// TestStatementsThatCannotBeTold: each has one thing that no text gives.
func TestStatementsThatCannotBeTold(t *testing.T) {
	all := map[string]func(s *api.Stmt){
		"a slot of an item":      func(s *api.Stmt) { s.Items[0].Expr.Slot = 1 },
		"a kind of an item":      func(s *api.Stmt) { s.Items[0].Expr.Kind = api.Int },
		"a slot in Where":        func(s *api.Stmt) { s.Where.Args[0].Slot = -1 },
		"a kind of Where":        func(s *api.Stmt) { s.Where.Kind = api.Bool },
		"no items":               func(s *api.Stmt) { s.Items = nil },
		"no sources":             func(s *api.Stmt) { s.From = nil },
		"no item":                func(s *api.Stmt) { s.Items[0].Expr = api.Expr{} },
		"All and an expression":  func(s *api.Stmt) { s.Items[0].All = true },
		"All with an As":         func(s *api.Stmt) { s.Items[0] = api.Item{All: true, As: "x"} },
		"a first On":             func(s *api.Stmt) { s.From[0].On = num(1) },
		"no second On":           func(s *api.Stmt) { s.From = append(s.From, api.Source{Table: "s"}) },
		"a Limit":                func(s *api.Stmt) { s.Limit = -2 },
		"a Limit above":          func(s *api.Stmt) { s.Limit = 1<<30 + 1 },
		"a Name":                 func(s *api.Stmt) { s.Name = "t" },
		"a Table":                func(s *api.Stmt) { s.Table = "t" },
		"Names":                  func(s *api.Stmt) { s.Names = []string{"a"} },
		"Rows":                   func(s *api.Stmt) { s.Rows = [][]api.Expr{{num(1)}} },
		"Sets":                   func(s *api.Stmt) { s.Sets = []api.Assign{{Name: "a", Expr: num(1)}} },
		"Columns":                func(s *api.Stmt) { s.Columns = []api.Column{{Name: "a", Kind: api.Int}} },
		"a Key":                  func(s *api.Stmt) { s.Key = []string{"a"} },
		"Unique":                 func(s *api.Stmt) { s.Unique = true },
		"a reserved name":        func(s *api.Stmt) { s.From[0].Table = "select" },
		"a capital":              func(s *api.Stmt) { s.Items[0].Expr.Name = "A" },
		"a name with a blank":    func(s *api.Stmt) { s.Items[0].As = "x y" },
		"an expression in Group": func(s *api.Stmt) { s.Group = []api.Expr{do(api.OpAdd, col("a"), num(1))} },
		"an aggregate in Group":  func(s *api.Stmt) { s.Group = []api.Expr{do(api.OpMax, col("a"))} },
		"a literal in Group":     func(s *api.Stmt) { s.Group = []api.Expr{num(1)} },
		"none in Group":          func(s *api.Stmt) { s.Group = []api.Expr{{}} },
		"none in Order":          func(s *api.Stmt) { s.Order = []api.Order{{Desc: true}} },
		"five sources":           func(s *api.Stmt) { s.From = append(s.From, joined(4)...) },
		"33 items":               func(s *api.Stmt) { s.Items = append(s.Items, make33()...) },
		"one Arg of an OpAdd":    func(s *api.Stmt) { s.Items[0].Expr = do(api.OpAdd, num(1)) },
		"two Args of an OpNot":   func(s *api.Stmt) { s.Items[0].Expr = do(api.OpNot, col("c"), col("c")) },
		"no Arg of an OpSum":     func(s *api.Stmt) { s.Items[0].Expr = do(api.OpSum) },
		"an Arg of OpCountAll":   func(s *api.Stmt) { s.Items[0].Expr = do(api.OpCountAll, num(1)) },
		"three Args":             func(s *api.Stmt) { s.Items[0].Expr = do(api.OpAdd, num(1), num(2), num(3)) },
		"an Arg of a literal":    func(s *api.Stmt) { s.Items[0].Expr = do(api.OpValue, num(1)) },
		"an Arg of a column": func(s *api.Stmt) {
			s.Items[0].Expr = api.Expr{Op: api.OpName, Name: "a", Args: []api.Expr{num(1)}}
		},
		"no operation":         func(s *api.Stmt) { s.Items[0].Expr = do(api.OpMax+1, num(1)) },
		"a value of a column":  func(s *api.Stmt) { s.Items[0].Expr.Value.Kind = api.Int },
		"a name of a literal":  func(s *api.Stmt) { s.Where.Args[1].Name = "a" },
		"a Bool that is none":  func(s *api.Stmt) { s.Where.Args[1].Value = api.Value{Kind: api.Bool, Int: 2} },
		"a kind that is none":  func(s *api.Stmt) { s.Where.Args[1].Value.Kind = api.Text + 1 },
		"a Text that is long":  func(s *api.Stmt) { s.Where.Args[1].Value = api.Value{Kind: api.Text, Text: strings.Repeat("x", 65)} },
		"a Text that is wrong": func(s *api.Stmt) { s.Where.Args[1].Value = api.Value{Kind: api.Text, Text: "\xff"} },
		"none at all":          func(s *api.Stmt) { *s = api.Stmt{} },
		"no such kind":         func(s *api.Stmt) { s.Kind = api.RollbackTo + 1 },
		"another kind":         func(s *api.Stmt) { s.Kind = api.Delete },
		"a BEGIN with a Name":  func(s *api.Stmt) { *s = api.Stmt{Kind: api.Begin, Name: "s"} },
		"a BEGIN with a Limit": func(s *api.Stmt) { *s = api.Stmt{Kind: api.Begin, Limit: -1} },
		"no savepoint":         func(s *api.Stmt) { *s = api.Stmt{Kind: api.Savepoint} },
		"no rows":              func(s *api.Stmt) { *s = api.Stmt{Kind: api.Insert, Name: "t"} },
		"an empty row":         func(s *api.Stmt) { *s = api.Stmt{Kind: api.Insert, Name: "t", Rows: [][]api.Expr{{}}} },
		"a bound row":          func(s *api.Stmt) { *s = bound1(t, "insert into t values ( 1 , 'x' , true )") },
		"a bound Set":          func(s *api.Stmt) { *s = bound1(t, "update t set c = null where null") },
		"a bound DELETE":       func(s *api.Stmt) { *s = bound1(t, "delete from t where a = 1") },
		"a bound SELECT":       func(s *api.Stmt) { *s = bound1(t, "select * from t") },
		"no Sets":              func(s *api.Stmt) { *s = api.Stmt{Kind: api.Update, Name: "t"} },
		"no table":             func(s *api.Stmt) { *s = api.Stmt{Kind: api.Delete} },
		"one in itself":        func(s *api.Stmt) { s.Where = inItself(api.OpNot, 1) },
		"one twice in itself":  func(s *api.Stmt) { s.Where = inItself(api.OpAnd, 2) },
		"one too deep":         func(s *api.Stmt) { s.Where = deep(41) },
	}
	for name, spoil := range all {
		s := parsed(t, "select a from t where a = 1")
		spoil(&s)
		for _, c := range []api.Catalog{mustOf(t, some), {}} {
			if b, e := Bind(c, s); e != api.ErrArg || !equal(b, api.Stmt{}) {
				t.Errorf("%s: %v", name, e)
			}
			if l, e := Slots(c, s); e != api.ErrArg || l != nil {
				t.Errorf("Slots, %s: %v", name, e)
			}
		}
		if _, e := parser.Print(s); e != api.ErrArg {
			t.Errorf("%s: it can be told", name)
		}
	}
}

// joined are n sources more.
func joined(n int) []api.Source {
	var l []api.Source
	for i := range n {
		l = append(l, api.Source{Table: "t", As: "x" + string(rune('a'+i)), On: api.Expr{Op: api.OpValue}})
	}
	return l
}

func make33() []api.Item {
	l := make([]api.Item, 32)
	for i := range l {
		l[i].Expr = num(1)
	}
	return l
}

func bound1(t *testing.T, text string) api.Stmt {
	t.Helper()
	b, e := Bind(mustOf(t, some), parsed(t, text))
	if e != api.OK {
		t.Fatalf("Bind of %q: %v", text, e)
	}
	return b
}

// inItself is an expression that has itself as each of its Args.
func inItself(op api.Op, n int) api.Expr {
	l := make([]api.Expr, n)
	for i := range l {
		l[i] = api.Expr{Op: op, Args: l}
	}
	return l[0]
}

// deep is an expression nested so deep.
func deep(n int) api.Expr {
	x := col("c")
	for range n {
		x = do(api.OpNot, x)
	}
	return x
}

// TestDeepAndLongExpressions: as deep and as long as there may be.
func TestDeepAndLongExpressions(t *testing.T) {
	c := mustOf(t, some)
	s := parsed(t, "select 1 from t")
	s.Where = deep(40)
	b, e := Bind(c, s)
	x := b.Where
	for range 40 {
		if e != api.OK || x.Op != api.OpNot || x.Kind != api.Bool || len(x.Args) != 1 {
			t.Fatalf("40 deep: %v, %v", x.Op, e)
		}
		x = x.Args[0]
	}
	if said(x) != "c#2:b" {
		t.Errorf("40 deep there is %s", said(x))
	}
	long := "select a" + strings.Repeat(" + a", 16000) + " from t"
	b, e = Bind(c, parsed(t, long))
	n := 0
	for x = b.Items[0].Expr; x.Op == api.OpAdd; x = x.Args[0] {
		if x.Kind != api.Int || said(x.Args[1]) != "a#0:i" {
			t.Fatalf("%d from the end: %s", n, said(x.Args[1]))
		}
		n++
	}
	if n != 16000 || said(x) != "a#0:i" || e != api.OK {
		t.Errorf("%d sums, %v", n, e)
	}
	refuses(t, api.ErrType, "select b"+strings.Repeat(" + a", 16000)+" from t", "select a"+strings.Repeat(" + a", 15990)+" + b from t")
	refuses(t, api.ErrName, "select zz"+strings.Repeat(" + b", 15990)+" from t")
	refuses(t, api.ErrGroup, "select a"+strings.Repeat(" + a", 15990)+" + count ( * ) from t")
}
