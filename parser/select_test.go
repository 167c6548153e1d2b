package parser

import (
	"testing"

	"stagepost/api"
)

// a, b and c are columns.
func a() api.Expr { return col("a") }
func b() api.Expr { return col("b") }
func c() api.Expr { return col("c") }

func TestSelect(t *testing.T) {
	readsSo(t, "select a from t", of1(func(*api.Stmt) {}))
	readsSo(t, "select * from t", of1(func(s *api.Stmt) { s.Items = []api.Item{{All: true}} }))
	readsSo(t, "select 1 from t", of1(func(s *api.Stmt) { s.Items = items(num(1)) }))
}

func TestItems(t *testing.T) {
	readsSo(t, "select a , b from t", of1(func(s *api.Stmt) { s.Items = items(a(), b()) }))
	readsSo(t, "select a as b from t", of1(func(s *api.Stmt) { s.Items[0].As = "b" }))
	readsSo(t, "select a as a , * , t . b as c , * from t", of1(func(s *api.Stmt) {
		s.Items = []api.Item{{Expr: a(), As: "a"}, {All: true}, {Expr: col("t", "b"), As: "c"}, {All: true}}
	}))
	readsSo(t, "select a * b , * from t", of1(func(s *api.Stmt) {
		s.Items = []api.Item{item(do(api.OpMul, a(), b())), {All: true}}
	}))
	readsSo(t, "select a and b or c as d from t", of1(func(s *api.Stmt) {
		s.Items = []api.Item{{Expr: do(api.OpOr, do(api.OpAnd, a(), b()), c()), As: "d"}}
	}))
	faultsAt(t, api.ErrSyntax, "select * ^as a from t")
	faultsAt(t, api.ErrSyntax, "select a ^b from t")
	faultsAt(t, api.ErrSyntax, "select ^, a from t")
	faultsAt(t, api.ErrSyntax, "select a , ^, b from t")
	faultsAt(t, api.ErrSyntax, "select a , ^from t")
	faultsAt(t, api.ErrSyntax, "select a as ^from t")
	faultsAt(t, api.ErrSyntax, "select a as ^'b' from t")
	faultsAt(t, api.ErrSyntax, "select a as ^1 from t")
	faultsAt(t, api.ErrSyntax, "select a as b ^. c from t")
	faultsAt(t, api.ErrSyntax, "select ( ^* ) from t")
	faultsAt(t, api.ErrSyntax, "select t . ^* from t")
	faultsAt(t, api.ErrSyntax, "select * ^* from t")
	faultsAt(t, api.ErrSyntax, "select a ^t")
	faultsAt(t, api.ErrSyntax, "select a^")
	faultsAt(t, api.ErrSyntax, "select ^desc from t")
}

func TestSources(t *testing.T) {
	readsSo(t, "select a from t as x", of1(func(s *api.Stmt) { s.From[0].As = "x" }))
	readsSo(t, "select a from t join u on a = b", of1(func(s *api.Stmt) {
		s.From = append(s.From, api.Source{Table: "u", On: do(api.OpEq, a(), b())})
	}))
	readsSo(t, "select a from t as x join t as y on x . a = y . a join u on true join v as w on null", of1(func(s *api.Stmt) {
		s.From = []api.Source{
			{Table: "t", As: "x"}, {Table: "t", As: "y", On: do(api.OpEq, col("x", "a"), col("y", "a"))}, {Table: "u", On: yes()}, {Table: "v", As: "w", On: null()},
		}
	}))
	faultsAt(t, api.ErrSyntax, "select a from ^1")
	faultsAt(t, api.ErrSyntax, "select a from ^'t'")
	faultsAt(t, api.ErrSyntax, "select a from ^table")
	faultsAt(t, api.ErrSyntax, "select a from ^( t )")
	faultsAt(t, api.ErrSyntax, "select a from t ^, u")
	faultsAt(t, api.ErrSyntax, "select a from t ^x")
	faultsAt(t, api.ErrSyntax, "select a from t ^. u")
	faultsAt(t, api.ErrSyntax, "select a from t ^on a")
	faultsAt(t, api.ErrSyntax, "select a from t join u ^join v on a")
	faultsAt(t, api.ErrSyntax, "select a from t join u^")
	faultsAt(t, api.ErrSyntax, "select a from t join u on ^where a")
	faultsAt(t, api.ErrSyntax, "select a from t join ^on a")
	faultsAt(t, api.ErrSyntax, "select a from t as ^join u on a")
	faultsAt(t, api.ErrSyntax, "select a from t join u on a ^as x")
}

func TestWhereGroupOrderLimit(t *testing.T) {
	readsSo(t, "select a from t where b", of1(func(s *api.Stmt) { s.Where = b() }))
	readsSo(t, "select a from t where null", of1(func(s *api.Stmt) { s.Where = null() }))
	readsSo(t, "select a from t group by a", of1(func(s *api.Stmt) { s.Group = exprs(a()) }))
	readsSo(t, "select a from t group by a , t . b , c", of1(func(s *api.Stmt) { s.Group = exprs(a(), col("t", "b"), c()) }))
	readsSo(t, "select a from t order by a", of1(func(s *api.Stmt) { s.Order = []api.Order{{Expr: a()}} }))
	readsSo(t, "select a from t order by a desc", of1(func(s *api.Stmt) { s.Order = []api.Order{{Expr: a(), Desc: true}} }))
	reads(t, "select a from t order by a asc", of1(func(s *api.Stmt) { s.Order = []api.Order{{Expr: a()}} }))
	readsSo(t, "select a from t order by a + 1 desc , - b , c or a desc", of1(func(s *api.Stmt) {
		s.Order = []api.Order{{Expr: do(api.OpAdd, a(), num(1)), Desc: true}, {Expr: do(api.OpNeg, b())}, {Expr: do(api.OpOr, c(), a()), Desc: true}}
	}))
	readsSo(t, "select a from t limit 0", of1(func(s *api.Stmt) { s.Limit = 0 }))
	readsSo(t, "select a from t limit 7", of1(func(s *api.Stmt) { s.Limit = 7 }))
	faultsAt(t, api.ErrSyntax, "select a from t where ^group by a")
	faultsAt(t, api.ErrSyntax, "select a from t where a ^where b")
	faultsAt(t, api.ErrSyntax, "select a from t where a ^, b")
	faultsAt(t, api.ErrSyntax, "select a from t group ^a")
	faultsAt(t, api.ErrSyntax, "select a from t group by ^1")
	faultsAt(t, api.ErrSyntax, "select a from t group by ^( a )")
	faultsAt(t, api.ErrSyntax, "select a from t group by a ^+ 1")
	faultsAt(t, api.ErrSyntax, "select a from t group by a ^desc")
	faultsAt(t, api.ErrSyntax, "select a from t group by ^count ( a )")
	faultsAt(t, api.ErrSyntax, "select a from t group by a . ^by")
	faultsAt(t, api.ErrSyntax, "select a from t order ^a")
	faultsAt(t, api.ErrSyntax, "select a from t order by ^desc")
	faultsAt(t, api.ErrSyntax, "select a from t order by a asc ^desc")
	faultsAt(t, api.ErrSyntax, "select a from t order by a desc ^asc")
	faultsAt(t, api.ErrSyntax, "select a from t order by a desc ^desc")
	faultsAt(t, api.ErrSyntax, "select a from t order by a , ^limit 1")
	faultsAt(t, api.ErrSyntax, "select a from t limit ^- 1")
	faultsAt(t, api.ErrSyntax, "select a from t limit ^a")
	faultsAt(t, api.ErrSyntax, "select a from t limit ^'1'")
	faultsAt(t, api.ErrSyntax, "select a from t limit ^( 1 )")
	faultsAt(t, api.ErrSyntax, "select a from t limit 1 ^+ 1")
	faultsAt(t, api.ErrSyntax, "select a from t limit 1 ^, 1")
	faultsAt(t, api.ErrSyntax, "select a from t limit ^null")
}

// TestTheOrderOfTheClauses: each with and without each other one, and none ahead of one that comes earlier.
func TestTheOrderOfTheClauses(t *testing.T) {
	type clause struct {
		said string
		set  func(*api.Stmt)
	}
	clauses := []clause{
		{" join u on c", func(s *api.Stmt) { s.From = append(s.From, api.Source{Table: "u", On: c()}) }},
		{" where b", func(s *api.Stmt) { s.Where = b() }},
		{" group by a , b", func(s *api.Stmt) { s.Group = exprs(a(), b()) }},
		{" order by c desc , a", func(s *api.Stmt) { s.Order = []api.Order{{Expr: c(), Desc: true}, {Expr: a()}} }},
		{" limit 9", func(s *api.Stmt) { s.Limit = 9 }},
	}
	for set := range 1 << len(clauses) {
		said := "select a from t"
		want := of1(func(*api.Stmt) {})
		for i, c := range clauses {
			if set>>i&1 == 1 {
				said += c.said
				c.set(&want)
			}
		}
		readsSo(t, said, want)
	}
	for i, early := range clauses {
		for j, late := range clauses[i:] {
			if i+j == 0 {
				continue // one JOIN behind another
			}
			faults(t, api.ErrSyntax, len("select a from t"+late.said)+1, "select a from t"+late.said+early.said)
		}
	}
}
