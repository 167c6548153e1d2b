package check

import (
	"slices"
	"strings"
	"testing"

	"stagepost/api"
	"stagepost/catalog"
	"stagepost/parser"
)

// This is a model of the chapter: what can be said is written into a map ahead; an expression is first laid out as a list of what is met on the way through it, then each of that is looked at; the statement is a copy, told and read again, that is changed at its places.

// modelName is what a column may say, with a table or without one.
type modelName struct{ table, name string }

// modelSlot is what it says then.
type modelSlot struct {
	slot int
	kind api.Kind
}

// modelWorld is where an expression stands: what names say there, which slots are of the group (all, if it is nil), whether there may be aggregates.
type modelWorld struct {
	names      map[modelName][]modelSlot
	group      map[int]int
	aggregates bool
}

// modelBind is Bind.
func modelBind(c api.Catalog, s api.Stmt) (api.Stmt, api.Errno) {
	text, e := parser.Print(s)
	if e != api.OK || catalog.Check(c) != api.OK || s.Kind == api.CreateTable || s.Kind == api.CreateIndex {
		return api.Stmt{}, api.ErrArg
	}
	b, _ := parser.Parse(text)
	switch b.Kind {
	case api.Select:
		e = modelSelect(c, &b)
	case api.Insert:
		e = modelInsert(c, &b)
	case api.Update, api.Delete:
		e = modelChange(c, &b)
	}
	if e != api.OK {
		return api.Stmt{}, e
	}
	return b, api.OK
}

func modelTable(c api.Catalog, name string) (api.Table, api.Errno) {
	for _, t := range c.Tables {
		if t.Name == name {
			return t, api.OK
		}
	}
	return api.Table{}, api.ErrName
}

// add lets a table be visible under a name, its slots from first on.
func (w modelWorld) add(name string, t api.Table, first int) {
	for i, column := range t.Columns {
		for _, table := range []string{"", name} {
			at := modelName{table, column.Name}
			w.names[at] = append(w.names[at], modelSlot{first + i, column.Kind})
		}
	}
}

func modelSelect(c api.Catalog, s *api.Stmt) api.Errno {
	known := map[string]int{}
	var stars []api.Item
	var worlds []modelWorld // of each On what is visible to it
	for i, from := range s.From {
		t, e := modelTable(c, from.Table)
		if e != api.OK {
			return e
		}
		name := from.As
		if name == "" {
			name = from.Table
		}
		if known[name]++; known[name] > 1 {
			return api.ErrTwice
		}
		first := len(stars)
		for _, column := range t.Columns {
			stars = append(stars, api.Item{Expr: api.Expr{Op: api.OpName, Table: name, Name: column.Name}, As: column.Name})
		}
		w := modelWorld{names: map[modelName][]modelSlot{}}
		if i > 0 {
			for at, l := range worlds[i-1].names {
				w.names[at] = slices.Clone(l)
			}
		}
		w.add(name, t, first)
		worlds = append(worlds, w)
	}
	last := worlds[len(worlds)-1]
	for i := range s.From {
		if i > 0 {
			if e := modelCondition(worlds[i], &s.From[i].On); e != api.OK {
				return e
			}
		}
	}
	if s.Where.Op != api.OpNone {
		if e := modelCondition(last, &s.Where); e != api.OK {
			return e
		}
	}
	return modelTold(last, stars, s)
}

// modelTold is what a SELECT tells, grouped or not.
func modelTold(w modelWorld, stars []api.Item, s *api.Stmt) api.Errno {
	group := map[int]int{}
	for i := range s.Group {
		if e := modelExpr(w, &s.Group[i]); e != api.OK {
			return e
		}
		group[s.Group[i].Slot]++
	}
	if len(group) < len(s.Group) {
		return api.ErrTwice
	}
	text, _ := parser.Print(api.Stmt{Kind: api.Select, Items: s.Items, From: []api.Source{{Table: "x"}}, Order: s.Order, Limit: -1})
	for _, word := range []string{"count (", "sum (", "min (", "max ("} {
		if strings.Contains(" "+modelBare(text), " "+word) || len(s.Group) > 0 {
			w.group = group
		}
	}
	w.aggregates = true
	var items []api.Item
	for _, item := range s.Items {
		if item.All {
			items = append(items, stars...)
			continue
		}
		if item.Expr.Op == api.OpName && item.As == "" {
			item.As = item.Expr.Name
		}
		items = append(items, item)
	}
	s.Items = items
	for i := range s.Items {
		if e := modelExpr(w, &s.Items[i].Expr); e != api.OK {
			return e
		}
	}
	for i := range s.Order {
		if e := modelExpr(w, &s.Order[i].Expr); e != api.OK {
			return e
		}
	}
	if len(s.Items) > 64 {
		return api.ErrLong
	}
	return api.OK
}

// modelBare is a text without what stands between apostrophes.
func modelBare(text string) string {
	var b strings.Builder
	for i, piece := range strings.Split(text, "'") {
		if i%2 == 0 {
			b.WriteString(piece)
		}
	}
	return b.String()
}

func modelInsert(c api.Catalog, s *api.Stmt) api.Errno {
	t, e := modelTable(c, s.Name)
	if e != api.OK {
		return e
	}
	kinds, all, times := map[string]api.Kind{}, []string{}, map[string]int{}
	for _, column := range t.Columns {
		kinds[column.Name] = column.Kind
		all = append(all, column.Name)
	}
	names := s.Names
	if len(names) == 0 {
		names = all
	}
	for _, name := range names {
		if kinds[name] == api.Null {
			return api.ErrName
		}
		times[name]++
	}
	if len(times) < len(names) {
		return api.ErrTwice
	}
	for i, row := range s.Rows {
		if len(row) != len(names) {
			return api.ErrCount
		}
		told := map[string]api.Expr{}
		for j, name := range names {
			if e := modelGoes(modelWorld{}, &row[j], kinds[name]); e != api.OK {
				return e
			}
			told[name] = row[j]
		}
		s.Rows[i] = nil
		for _, name := range all {
			x, ok := told[name]
			if !ok {
				x.Op = api.OpValue
			}
			s.Rows[i] = append(s.Rows[i], x)
		}
	}
	s.Names = all
	return api.OK
}

func modelChange(c api.Catalog, s *api.Stmt) api.Errno {
	t, e := modelTable(c, s.Name)
	if e != api.OK {
		return e
	}
	w := modelWorld{names: map[modelName][]modelSlot{}}
	w.add(s.Name, t, 0)
	times := map[string]int{}
	for i := range s.Sets {
		set := &s.Sets[i]
		at := w.names[modelName{s.Name, set.Name}]
		if at == nil {
			return api.ErrName
		}
		if times[set.Name]++; times[set.Name] > 1 {
			return api.ErrTwice
		}
		if e := modelGoes(w, &set.Expr, at[0].kind); e != api.OK {
			return e
		}
		set.Slot = at[0].slot
	}
	if s.Where.Op == api.OpNone {
		return api.OK
	}
	return modelCondition(w, &s.Where)
}

func modelCondition(w modelWorld, x *api.Expr) api.Errno {
	return modelGoes(w, x, api.Bool)
}

func modelGoes(w modelWorld, x *api.Expr, asked api.Kind) api.Errno {
	if e := modelExpr(w, x); e != api.OK {
		return e
	}
	if x.Kind != api.Null && x.Kind != asked {
		return api.ErrType
	}
	return api.OK
}

// met is what is met on the way through an expression: a piece of it, ahead of its Args or behind them, in so many aggregates.
type met struct {
	x      *api.Expr
	ahead  bool
	within int
}

func wayThrough(x *api.Expr, within int, l []met) []met {
	l = append(l, met{x, true, within})
	more := within
	if x.Op >= api.OpCountAll {
		more++
	}
	for i := range x.Args {
		l = wayThrough(&x.Args[i], more, l)
	}
	return append(l, met{x, false, within})
}

func modelExpr(w modelWorld, x *api.Expr) api.Errno {
	for _, m := range wayThrough(x, 0, nil) {
		aggregate := m.x.Op >= api.OpCountAll
		switch {
		case m.ahead && aggregate && (!w.aggregates || m.within > 0):
			return api.ErrGroup
		case m.ahead:
		case m.x.Op == api.OpName:
			l := w.names[modelName{m.x.Table, m.x.Name}]
			switch {
			case len(l) == 0:
				return api.ErrName
			case len(l) > 1:
				return api.ErrTwice
			case m.within == 0 && w.group != nil && w.group[l[0].slot] == 0:
				return api.ErrGroup
			}
			m.x.Slot, m.x.Kind = l[0].slot, l[0].kind
		case m.x.Op == api.OpValue:
			m.x.Kind = m.x.Value.Kind
		default:
			kind, ok := modelKind(m.x)
			if !ok {
				return api.ErrType
			}
			m.x.Kind = kind
		}
	}
	return api.OK
}

// modelKinds are all operations, each with the kinds that it takes, in each way, and the one that it gives.
const modelKinds = "add:iii sub:iii mul:iii div:iii mod:iii neg:ii join:ttt and:bbb or:bbb not:bb " +
	"eq:bbb eq:iib eq:ttb ne:bbb ne:iib ne:ttb lt:bbb lt:iib lt:ttb le:bbb le:iib le:ttb gt:bbb gt:iib gt:ttb ge:bbb ge:iib ge:ttb " +
	"isnull:bb isnull:ib isnull:tb notnull:bb notnull:ib notnull:tb count*:i count:bi count:ii count:ti sum:ii min:nn max:nn min:bb min:ii min:tt max:bb max:ii max:tt "

// modelKind is the kind that the first way gives that the Args go with.
func modelKind(x *api.Expr) (api.Kind, bool) {
	for _, way := range strings.Fields(modelKinds) {
		op, kinds, _ := strings.Cut(way, ":")
		if op != opName(x.Op) || len(kinds) != len(x.Args)+1 {
			continue
		}
		ok := true
		for i, arg := range x.Args {
			k := "nbit"[arg.Kind]
			ok = ok && (k == 'n' || k == kinds[i])
		}
		if ok {
			return api.Kind(strings.IndexByte("nbit", kinds[len(kinds)-1])), true
		}
	}
	return 0, false
}

// agrees sees to it that Bind and Slots answer what the model does.
func agrees(t testing.TB, c api.Catalog, s api.Stmt) (api.Stmt, api.Errno) {
	t.Helper()
	b, e := Bind(c, s)
	want, we := modelBind(c, s)
	if e != we || !equal(b, want) {
		t.Errorf("Bind of %s: %s, %v; want %s, %v", short(saidStmt(s)), short(saidStmt(b)), e, short(saidStmt(want)), we)
	}
	slots, e2 := Slots(c, s)
	if e2 != we || !slices.Equal(slots, modelSlots(c, want)) {
		t.Errorf("Slots of %s: %v, %v; want %v", short(saidStmt(s)), slots, e2, we)
	}
	return b, e
}

// modelSlots are the columns of a bound statement's slots.
func modelSlots(c api.Catalog, b api.Stmt) (l []api.Column) {
	var names []string
	for _, from := range b.From {
		names = append(names, from.Table)
	}
	if b.Kind == api.Update || b.Kind == api.Delete {
		names = []string{b.Name}
	}
	for _, name := range names {
		t, _ := modelTable(c, name)
		l = append(l, t.Columns...)
	}
	return l
}
