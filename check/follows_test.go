package check

import (
	"slices"
	"strings"
	"testing"

	"stagepost/api"
	"stagepost/parser"
	"stagepost/value"
)

// These are the tests of P16.3 and P16.4, and the fuzz test.

// bare is an expression without Slots and Kinds.
func bare(x api.Expr) api.Expr {
	x.Slot, x.Kind = 0, 0
	x.Args = slices.Clone(x.Args)
	for i := range x.Args {
		x.Args[i] = bare(x.Args[i])
	}
	return x
}

// unbound is what was bound, if it was told as s is: without Slots and Kinds, with items, names and rows as told.
func unbound(b, s api.Stmt, columns []api.Column) (api.Stmt, bool) {
	b.Where = bare(b.Where)
	b.From, b.Sets, b.Group, b.Order = slices.Clone(b.From), slices.Clone(b.Sets), slices.Clone(b.Group), slices.Clone(b.Order)
	for i := range b.From {
		b.From[i].On = bare(b.From[i].On)
	}
	for i := range b.Sets {
		b.Sets[i].Expr, b.Sets[i].Slot = bare(b.Sets[i].Expr), 0
	}
	for i := range b.Group {
		b.Group[i] = bare(b.Group[i])
	}
	for i := range b.Order {
		b.Order[i].Expr = bare(b.Order[i].Expr)
	}
	ok := unItems(&b, s, len(columns))
	return b, unRows(&b, s) && ok
}

// unItems puts the items of each slot together again.
func unItems(b *api.Stmt, s api.Stmt, slots int) bool {
	left := b.Items
	b.Items = nil
	for _, told := range s.Items {
		if !told.All {
			if len(left) == 0 {
				return false
			}
			one := api.Item{Expr: bare(left[0].Expr), As: left[0].As}
			if told.As == "" && one.Expr.Op == api.OpName && one.As == one.Expr.Name {
				one.As = ""
			}
			b.Items, left = append(b.Items, one), left[1:]
			continue
		}
		for slot := range slots {
			if len(left) == 0 || left[0].Expr.Slot != slot || left[0].Expr.Table == "" || left[0].As != left[0].Expr.Name {
				return false
			}
			left = left[1:]
		}
		b.Items = append(b.Items, told)
	}
	return len(left) == 0
}

// unRows leaves of names and rows what was told.
func unRows(b *api.Stmt, s api.Stmt) bool {
	names := s.Names
	if len(names) == 0 {
		names = b.Names
	}
	rows := b.Rows
	b.Rows = nil
	for _, row := range rows {
		var told []api.Expr
		for _, name := range names {
			told = append(told, bare(row[slices.Index(b.Names, name)]))
		}
		for i, name := range b.Names {
			if !slices.Contains(names, name) && !equal(row[i], api.Expr{Op: api.OpValue}) {
				return false
			}
		}
		b.Rows = append(b.Rows, told)
	}
	b.Names = s.Names
	return true
}

func saysNoMore(t testing.TB, c api.Catalog, s, b api.Stmt) {
	t.Helper()
	columns, _ := Slots(c, s)
	if u, ok := unbound(b, s, columns); !ok || !parser.Same(u, s) {
		t.Errorf("of %s is bound %s, which says %s", saidStmt(s), saidStmt(b), saidStmt(u))
	}
}

// expressions are all that a statement has, those within others too.
func expressions(s api.Stmt) (l []api.Expr) {
	var add func(x api.Expr)
	add = func(x api.Expr) {
		if x.Op == api.OpNone {
			return
		}
		l = append(l, x)
		for _, arg := range x.Args {
			add(arg)
		}
	}
	for _, item := range s.Items {
		add(item.Expr)
	}
	for _, from := range s.From {
		add(from.On)
	}
	for _, row := range s.Rows {
		for _, x := range row {
			add(x)
		}
	}
	for _, set := range s.Sets {
		add(set.Expr)
	}
	for _, x := range append(slices.Clone(s.Group), s.Where) {
		add(x)
	}
	for _, by := range s.Order {
		add(by.Expr)
	}
	return l
}

// worked is a bound expression without aggregates, worked out over the slots' values; wrong is what P16.4 rules out.
func worked(x api.Expr, row []api.Value) (v api.Value, e api.Errno, wrong bool) {
	switch x.Op {
	case api.OpValue:
		v = x.Value
	case api.OpName:
		v = row[x.Slot]
	default:
		var l []api.Value
		for _, arg := range x.Args {
			v, e, wrong := worked(arg, row)
			if e != api.OK || wrong {
				return api.Value{}, e, wrong
			}
			l = append(l, v)
		}
		v, e = value.Do(x.Op, l...)
		if e != api.OK {
			return api.Value{}, e, e == api.ErrType || e == api.ErrArg
		}
	}
	return v, api.OK, v.Kind != api.Null && v.Kind != x.Kind
}

// wellKinded tries all expressions of a bound statement over rows made by chance.
func (m *maker) wellKinded(t testing.TB, b api.Stmt, columns []api.Column) (n int) {
	t.Helper()
	for _, x := range expressions(b) {
		if hasOne(x) {
			continue
		}
		for range 3 {
			row := make([]api.Value, len(columns))
			for i, column := range columns {
				if m.Intn(4) > 0 {
					row[i] = m.value(column.Kind)
				}
			}
			n++
			if v, e, wrong := worked(x, row); wrong {
				t.Errorf("%s over %v: %v, %v", said(x), row, v, e)
			}
		}
	}
	return n
}

// hasOne says whether there is an aggregate in x, by what is told of it.
func hasOne(x api.Expr) bool {
	for _, op := range aggregates {
		if strings.Contains(said(bareTexts(x)), opName(op)+"(") {
			return true
		}
	}
	return false
}

// bareTexts is x without what its texts say.
func bareTexts(x api.Expr) api.Expr {
	x.Value.Text = ""
	x.Args = slices.Clone(x.Args)
	for i := range x.Args {
		x.Args[i] = bareTexts(x.Args[i])
	}
	return x
}

func TestWhatIsBoundSaysNoMore(t *testing.T) {
	m := newMaker(163, 0)
	n := 0
	for range 60 {
		c := m.catalog(t)
		for range 60 {
			s := m.stmt(c)
			b, e := Bind(c, s)
			if e != api.OK {
				continue
			}
			n++
			saysNoMore(t, c, s, b)
		}
	}
	if n < 2000 {
		t.Errorf("only %d are bound", n)
	}
}

// renamed is s with another name for its source i, told everywhere, or without one (if it is ""); l are those that its columns say.
func renamed(s api.Stmt, i int, as string) api.Stmt {
	text, _ := parser.Print(s)
	s, _ = parser.Parse(text)
	from := &s.From[i]
	was, now := from.As, as
	if was == "" {
		was = from.Table
	}
	if now == "" {
		now = from.Table
	}
	from.As = as
	var tell func(x *api.Expr)
	tell = func(x *api.Expr) {
		if x.Op == api.OpName && x.Table == was {
			x.Table = now
		}
		for j := range x.Args {
			tell(&x.Args[j])
		}
	}
	for j := range s.Items {
		tell(&s.Items[j].Expr)
	}
	for j := range s.From {
		tell(&s.From[j].On)
	}
	for j := range s.Group {
		tell(&s.Group[j])
	}
	for j := range s.Order {
		tell(&s.Order[j].Expr)
	}
	tell(&s.Where)
	return s
}

// slotsAndKinds are those of all expressions, in order.
func slotsAndKinds(b api.Stmt) (l [][2]int) {
	for _, x := range expressions(b) {
		l = append(l, [2]int{x.Slot, int(x.Kind)})
	}
	return l
}

// TestNamesOfSourcesSayNothing: with another one, told everywhere, the bound statement has the same Slots and Kinds; so a refused one is refused the same.
func TestNamesOfSourcesSayNothing(t *testing.T) {
	for _, bad := range []int{0, 30} {
		m := newMaker(int64(1630+bad), bad)
		n := 0
		for range 60 {
			c := m.catalog(t)
			for range 40 {
				s := m.rows(c)
				b, e := Bind(c, s)
				if e == api.ErrTwice || e == api.ErrName {
					continue // a name that is wrong may be right then, or the other way round
				}
				for i := range s.From {
					for _, as := range []string{"other", "u", ""} {
						if as == "" && (s.From[i].As == "" || isTold(s, i)) {
							continue
						}
						r := renamed(s, i, as)
						again, re := Bind(c, r)
						if re != e || !slices.Equal(slotsAndKinds(again), slotsAndKinds(b)) {
							t.Errorf("%s, %v; with another name %s, %v", saidStmt(b), e, saidStmt(again), re)
						}
						one, _ := Slots(c, s)
						if two, _ := Slots(c, r); !slices.Equal(one, two) {
							t.Errorf("%s: the slots are %v; with another name %v", saidStmt(s), one, two)
						}
						n++
					}
				}
			}
		}
		if n < 4000 {
			t.Errorf("only %d were told by another name", n)
		}
	}
}

// isTold says whether the table of the source i is the name of another source.
func isTold(s api.Stmt, i int) bool {
	for j, from := range s.From {
		if j != i && (from.As == s.From[i].Table || from.As == "" && from.Table == s.From[i].Table) {
			return true
		}
	}
	return false
}

func TestWellKinded(t *testing.T) {
	m := newMaker(164, 0)
	n := 0
	for range 60 {
		c := m.catalog(t)
		for range 60 {
			s := m.stmt(c)
			b, e := Bind(c, s)
			if e != api.OK {
				continue
			}
			columns, _ := Slots(c, s)
			n += m.wellKinded(t, b, columns)
		}
	}
	if n < 50000 {
		t.Errorf("only %d expressions were worked out", n)
	}
}

// TestWellKindedInSmall: what is bound of each operation over each of these, and of each over such again.
func TestWellKindedInSmall(t *testing.T) {
	c := mustOf(t, some)
	m := newMaker(165, 0)
	leaves := []api.Expr{col("a"), col("b"), col("c"), {Op: api.OpValue}}
	small := slices.Clone(leaves)
	for op := api.OpAdd; op <= api.OpNotNull; op++ {
		small = append(small, over(op, leaves, leaves)...)
	}
	all := slices.Clone(small)
	for op := api.OpAdd; op <= api.OpNotNull; op++ {
		all = append(all, over(op, small, leaves)...)
	}
	bound := 0
	for _, x := range all {
		s := api.Stmt{Kind: api.Select, Items: []api.Item{{Expr: x}}, From: []api.Source{{Table: "t"}}, Limit: -1}
		b, e := Bind(c, s)
		if e != api.OK {
			continue
		}
		bound++
		columns, _ := Slots(c, s)
		m.wellKinded(t, b, columns)
		saysNoMore(t, c, s, b)
	}
	if bound < 1000 {
		t.Errorf("only %d of %d are bound", bound, len(all))
	}
}

// TestRefusedIsWrong: an expression of columns that ErrType refuses is refused by value.Do too, over some row (where all columns have a value).
func TestRefusedIsWrong(t *testing.T) {
	c := mustOf(t, some)
	leaves := []api.Expr{col("a"), col("b"), col("c")}
	row := []api.Value{{Kind: api.Int, Int: 7}, {Kind: api.Text, Text: "x"}, {Kind: api.Bool, Int: 1}}
	for op := api.OpAdd; op <= api.OpNotNull; op++ {
		for _, x := range over(op, leaves, leaves) {
			b, e := Bind(c, api.Stmt{Kind: api.Select, Items: []api.Item{{Expr: x}}, From: []api.Source{{Table: "t"}}, Limit: -1})
			for i := range x.Args {
				x.Args[i].Slot = slices.IndexFunc(leaves, func(y api.Expr) bool { return y.Name == x.Args[i].Name })
				x.Args[i].Kind = row[x.Args[i].Slot].Kind
			}
			_, wrong, _ := worked(x, row)
			if (e == api.ErrType) != (wrong == api.ErrType) || e != api.OK && e != api.ErrType {
				t.Errorf("%s: %v; worked out %v; bound %s", said(x), e, wrong, saidStmt(b))
			}
		}
	}
}

// FuzzBind: of any statement over any catalog, what is said here holds.
func FuzzBind(f *testing.F) {
	for _, text := range []string{
		"select a , x.c from t as x where a = 1", "select * from t join s on t.a = s.a group by b", "select count ( * ) , sum ( a ) + 1 from t group by c order by max ( b ) desc limit 3",
		"insert into t ( b , a ) values ( 'x' , 7 ) , ( null , 1 + 2 )", "update t set a = a + 1 , b = null where c and not b is null", "delete from s where e", "begin", "rollback to x",
		"select 1 from t as s join s as t on s.a = t.d", "create index x on t ( a )", "select sum ( sum ( a ) ) from t", "insert into t values ( 1 )",
	} {
		f.Add(some, text)
		f.Add("create table t ( a int , primary key ( a ) )", text)
	}
	f.Fuzz(func(t *testing.T, tables, text string) {
		c, s, ok := fromText(tables, text)
		if !ok {
			return
		}
		b, e := agrees(t, c, s)
		if e != api.OK {
			return
		}
		saysNoMore(t, c, s, b)
		columns, _ := Slots(c, s)
		newMaker(1, 0).wellKinded(t, b, columns)
	})
}
