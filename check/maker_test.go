package check

import (
	"math/rand"
	"slices"
	"strconv"
	"strings"
	"testing"

	"stagepost/api"
	"stagepost/catalog"
	"stagepost/parser"
	"stagepost/value"
)

// maker makes catalogs, statements and values by chance, most of them right.
type maker struct {
	*rand.Rand
	bad int // one thing in so many is made whatever comes (0: none)
}

func newMaker(seed int64, bad int) *maker {
	return &maker{rand.New(rand.NewSource(seed)), bad}
}

// amiss says whether something is to be wrong here.
func (m *maker) amiss() bool { return m.bad > 0 && m.Intn(m.bad) == 0 }

func pick[T any](m *maker, l ...T) T { return l[m.Intn(len(l))] }

var (
	tableNames  = strings.Fields("t s r q")
	columnNames = strings.Fields("a b c d e f g")
	kinds       = []api.Kind{api.Bool, api.Int, api.Text}
	gives       = map[api.Kind][]api.Op{
		api.Int:  {api.OpAdd, api.OpSub, api.OpMul, api.OpDiv, api.OpMod, api.OpNeg},
		api.Text: {api.OpJoin},
		api.Bool: {api.OpEq, api.OpNe, api.OpLt, api.OpLe, api.OpGt, api.OpGe, api.OpAnd, api.OpOr, api.OpNot, api.OpIsNull, api.OpNotNull},
	}
	aggregates = []api.Op{api.OpCountAll, api.OpCount, api.OpSum, api.OpMin, api.OpMax}
)

// catalog has one to three tables, whose columns have names in common.
func (m *maker) catalog(t testing.TB) api.Catalog {
	t.Helper()
	var b strings.Builder
	for i := range 1 + m.Intn(3) {
		b.WriteString("create table " + tableNames[i] + " ( ")
		names := m.Perm(len(columnNames))[:1+m.Intn(5)]
		for _, at := range names {
			b.WriteString(columnNames[at] + pick(m, " int", " text", " bool") + pick(m, "", " not null") + " , ")
		}
		b.WriteString("primary key ( " + columnNames[names[0]] + " ) ) ;")
	}
	return mustOf(t, b.String())
}

// place1 is what an expression may speak of.
type place1 struct {
	columns    []api.Expr // those that it may name outside of aggregates, as they are written, with their kinds
	within     []api.Expr // those within
	aggregates bool
}

// columnsOf are the columns of these sources, each as it may be written.
func columnsOf(names []string, tables []api.Table) []api.Expr {
	times := map[string]int{}
	for _, t := range tables {
		for _, column := range t.Columns {
			times[column.Name]++
		}
	}
	var l []api.Expr
	for i, t := range tables {
		for _, column := range t.Columns {
			x := api.Expr{Op: api.OpName, Table: names[i], Name: column.Name, Kind: column.Kind}
			l = append(l, x)
			if times[column.Name] == 1 {
				x.Table = ""
				l = append(l, x)
			}
		}
	}
	return l
}

// expr is an expression of that kind, at most so deep.
func (m *maker) expr(in place1, kind api.Kind, deep int) api.Expr {
	if m.amiss() {
		kind = pick(m, kinds...)
	}
	if in.aggregates && deep > 0 && m.Intn(3) == 0 || m.bad > 0 && m.Intn(m.bad*3) == 0 {
		return m.aggregate(in, kind, deep)
	}
	if deep == 0 || m.Intn(3) == 0 {
		return m.leaf(in, kind)
	}
	op := pick(m, gives[kind]...)
	asked := kind
	switch op {
	case api.OpEq, api.OpNe, api.OpLt, api.OpLe, api.OpGt, api.OpGe, api.OpIsNull, api.OpNotNull:
		asked = pick(m, kinds...)
	}
	x := api.Expr{Op: op}
	for range value.Takes(op) {
		x.Args = append(x.Args, m.expr(in, asked, deep-1))
	}
	return x
}

func (m *maker) aggregate(in place1, kind api.Kind, deep int) api.Expr {
	op := pick(m, aggregates...)
	if kind != api.Int && op < api.OpMin {
		op = pick(m, api.OpMin, api.OpMax)
	}
	x := api.Expr{Op: op}
	if op == api.OpCountAll {
		return x
	}
	if op == api.OpCount {
		kind = pick(m, kinds...)
	}
	x.Args = []api.Expr{m.expr(place1{columns: in.within}, kind, max(0, deep-1))}
	return x
}

// leaf is a column, if there is one, or a literal.
func (m *maker) leaf(in place1, kind api.Kind) api.Expr {
	if m.amiss() {
		return api.Expr{Op: api.OpName, Table: pick(m, "", "", "t", "s", "x", "y"), Name: pick(m, columnNames...)}
	}
	var fit []api.Expr
	for _, x := range in.columns {
		if x.Kind == kind {
			fit = append(fit, api.Expr{Op: api.OpName, Table: x.Table, Name: x.Name})
		}
	}
	if len(fit) > 0 && m.Intn(4) > 0 {
		return pick(m, fit...)
	}
	if m.Intn(5) == 0 {
		return api.Expr{Op: api.OpValue}
	}
	return api.Expr{Op: api.OpValue, Value: m.value(kind)}
}

// value is one of that kind, no Null.
func (m *maker) value(kind api.Kind) api.Value {
	v := api.Value{Kind: kind}
	switch kind {
	case api.Bool:
		v.Int = int64(m.Intn(2))
	case api.Int:
		v.Int = pick(m, 0, 1, -1, 2, 7, -1<<63, 1<<63-1, 1<<31, int64(m.Uint64()))
	case api.Text:
		v.Text = pick(m, "", "x", "it's", "count ( ", "xy", strings.Repeat("z", 64), strings.Repeat("z", 33))
	}
	return v
}

func (m *maker) stmt(c api.Catalog) api.Stmt {
	switch m.Intn(8) {
	case 0, 1:
		return m.insert(c)
	case 2:
		return m.update(c)
	case 3:
		return m.remove(c)
	}
	return m.rows(c)
}

func (m *maker) table(c api.Catalog) (api.Table, string) {
	if m.amiss() {
		return c.Tables[0], pick(m, "q", "x", "a")
	}
	t := pick(m, c.Tables...)
	return t, t.Name
}

func (m *maker) rows(c api.Catalog) api.Stmt {
	s := api.Stmt{Kind: api.Select, Limit: pick(m, -1, 0, 3)}
	var names []string
	var tables []api.Table
	for i := range pick(m, 1, 1, 1, 2, 2, 3, 4) {
		t, told := m.table(c)
		from := api.Source{Table: told}
		if slices.Contains(names, told) && !m.amiss() || m.Intn(3) == 0 {
			from.As = pick(m, "x", "y", "z", "t", "s")
			for slices.Contains(names, from.As) && !m.amiss() {
				from.As += strconv.Itoa(i)
			}
		}
		name := from.As
		if name == "" {
			name = told
		}
		names, tables = append(names, name), append(tables, t)
		if i > 0 {
			from.On = m.expr(place1{columns: columnsOf(names, tables)}, api.Bool, 2)
		}
		s.From = append(s.From, from)
	}
	all := columnsOf(names, tables)
	if m.Intn(2) == 0 {
		s.Where = m.expr(place1{columns: all}, api.Bool, 3)
	}
	in := place1{columns: all, within: all}
	if m.Intn(3) == 0 {
		in.columns = m.group(&s, all)
		in.aggregates = true
	} else if m.Intn(4) == 0 {
		in = place1{within: all, aggregates: true}
	}
	m.told(&s, in)
	return s
}

// group puts a Group into s, and answers the columns that are of it.
func (m *maker) group(s *api.Stmt, all []api.Expr) (l []api.Expr) {
	for range 1 + m.Intn(3) {
		x := pick(m, all...)
		if slices.ContainsFunc(s.Group, func(g api.Expr) bool { return g.Name == x.Name }) && !m.amiss() {
			continue
		}
		l = append(l, x)
		x.Kind = 0
		s.Group = append(s.Group, x)
	}
	return l
}

// told puts Items and an Order into s.
func (m *maker) told(s *api.Stmt, in place1) {
	for range 1 + m.Intn(4) {
		if !in.aggregates && m.Intn(4) == 0 || m.amiss() {
			s.Items = append(s.Items, api.Item{All: true})
			continue
		}
		s.Items = append(s.Items, api.Item{Expr: m.expr(in, pick(m, kinds...), m.Intn(3)), As: pick(m, "", "", "x", "a")})
	}
	for range max(0, m.Intn(4)-1) {
		s.Order = append(s.Order, api.Order{Expr: m.expr(in, pick(m, kinds...), m.Intn(3)), Desc: m.Intn(2) == 0})
	}
}

func (m *maker) insert(c api.Catalog) api.Stmt {
	t, name := m.table(c)
	s := api.Stmt{Kind: api.Insert, Name: name}
	columns := slices.Clone(t.Columns)
	if m.Intn(2) == 0 {
		m.Shuffle(len(columns), func(i, j int) { columns[i], columns[j] = columns[j], columns[i] })
		columns = columns[:1+m.Intn(len(columns))]
		if m.amiss() {
			columns = append(columns, api.Column{Name: pick(m, columnNames...), Kind: api.Int})
		}
		for _, column := range columns {
			s.Names = append(s.Names, column.Name)
		}
	}
	for range 1 + m.Intn(3) {
		var row []api.Expr
		for _, column := range columns {
			row = append(row, m.expr(place1{}, column.Kind, m.Intn(3)))
		}
		if m.amiss() {
			row = append(row, m.leaf(place1{}, api.Int))
		}
		s.Rows = append(s.Rows, row)
	}
	return s
}

func (m *maker) update(c api.Catalog) api.Stmt {
	t, name := m.table(c)
	s := api.Stmt{Kind: api.Update, Name: name}
	in := place1{columns: columnsOf([]string{name}, []api.Table{t})}
	for _, at := range m.Perm(len(t.Columns))[:1+m.Intn(len(t.Columns))] {
		set := api.Assign{Name: t.Columns[at].Name, Expr: m.expr(in, t.Columns[at].Kind, m.Intn(3))}
		if m.amiss() {
			set.Name = pick(m, columnNames...)
		}
		s.Sets = append(s.Sets, set)
	}
	if m.Intn(2) == 0 {
		s.Where = m.expr(in, api.Bool, 3)
	}
	return s
}

func (m *maker) remove(c api.Catalog) api.Stmt {
	t, name := m.table(c)
	s := api.Stmt{Kind: api.Delete, Name: name}
	if m.Intn(4) > 0 {
		s.Where = m.expr(place1{columns: columnsOf([]string{name}, []api.Table{t})}, api.Bool, 3)
	}
	return s
}

// TestStatementsByChance: of many, right ones and wrong ones, Bind and Slots answer what the model does; each error is met often.
func TestStatementsByChance(t *testing.T) {
	for _, bad := range []int{0, 40, 8} {
		m := newMaker(int64(16+bad), bad)
		met := map[api.Errno]int{}
		for range 60 {
			c := m.catalog(t)
			for range 100 {
				_, e := agrees(t, c, m.stmt(c))
				met[e]++
			}
		}
		asked := []api.Errno{api.OK}
		if bad > 0 {
			asked = append(asked, api.ErrType, api.ErrName, api.ErrTwice, api.ErrGroup, api.ErrCount)
		} else if met[api.OK] < 5000 {
			t.Errorf("of 6000 right statements %d are bound: %v", met[api.OK], met)
		}
		for _, e := range asked {
			if met[e] < 20 {
				t.Errorf("one wrong in %d: %v", bad, met)
			}
		}
	}
}

// TestAllSmallExpressions goes through each operation and aggregate over all kinds, and over all of these again, at each place where an expression stands.
func TestAllSmallExpressions(t *testing.T) {
	c := mustOf(t, some)
	leaves := []api.Expr{col("a"), col("b"), col("c"), {Op: api.OpValue}, num(1), {Op: api.OpName, Table: "t", Name: "c"}, col("zz")}
	small := slices.Clone(leaves)
	for op := api.OpAdd; op <= api.OpMax; op++ {
		small = append(small, over(op, leaves[:5], leaves[:5])...)
	}
	all := slices.Clone(small)
	for op := api.OpAdd; op <= api.OpMax; op++ {
		all = append(all, over(op, small, leaves[:4])...)
		all = append(all, over(op, leaves[4:], small)...)
	}
	bound, from := 0, []api.Source{{Table: "t"}}
	for i, x := range all {
		told := []api.Stmt{
			{Kind: api.Select, Items: []api.Item{{Expr: x}}, From: from, Limit: -1},
			{Kind: api.Select, Items: []api.Item{{Expr: num(1)}}, From: from, Order: []api.Order{{Expr: x}}, Limit: -1},
			{Kind: api.Select, Items: []api.Item{{Expr: x, As: "x"}}, From: from, Group: []api.Expr{col("a")}, Limit: -1},
			{Kind: api.Select, Items: []api.Item{{All: true}}, From: from, Where: x, Limit: -1},
			{Kind: api.Insert, Name: "t", Names: []string{pick3(i, "a", "b", "c")}, Rows: [][]api.Expr{{x}}},
			{Kind: api.Update, Name: "t", Sets: []api.Assign{{Name: pick3(i/3, "a", "b", "c"), Expr: x}}},
			{Kind: api.Delete, Name: "t", Where: x},
		}
		if i >= len(small) {
			told = told[i%len(told):][:1] // of the many one place each
		}
		for _, s := range told {
			if _, e := agrees(t, c, s); e == api.OK {
				bound++
			}
		}
	}
	if bound < 500 {
		t.Errorf("only %d of %d expressions are bound", bound, len(all))
	}
}

func pick3(i int, l ...string) string { return l[i%len(l)] }

// over are an operation, or an aggregate, over each Arg, or over each pair of them.
func over(op api.Op, one, two []api.Expr) (l []api.Expr) {
	if op == api.OpCountAll {
		return []api.Expr{{Op: op}}
	}
	for _, x := range one {
		if value.Takes(op) != 2 {
			l = append(l, do(op, x))
			continue
		}
		for _, y := range two {
			l = append(l, do(op, x, y))
		}
	}
	return l
}

// fromText is a statement over a catalog, out of two texts, or false.
func fromText(tables, text string) (api.Catalog, api.Stmt, bool) {
	c, f := catalog.Of(tables)
	s, g := parser.Parse(text)
	return c, s, f.Err == api.OK && g.Err == api.OK
}
