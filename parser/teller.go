package parser

import "stagepost/api"

// teller puts the tokens of a text together. What no text says it tells as well as it can, or leaves out: read again, the text is not the same.
type teller struct {
	tokens []api.Token
	exprs  int // how many expressions were told
}

func (t *teller) add(token api.Token) {
	t.tokens = append(t.tokens, token)
}

// say tells words and signs of the language.
func (t *teller) say(all ...string) {
	for _, said := range all {
		kind := api.SignToken
		if 'a' <= said[0] && said[0] <= 'z' {
			kind = api.WordToken
		}
		t.add(api.Token{Kind: kind, Text: said})
	}
}

func (t *teller) name(s string) {
	t.add(api.Token{Kind: api.WordToken, Text: s})
}

func (t *teller) number(x uint64) {
	t.add(api.Token{Kind: api.NumberToken, Number: x})
}

// tellList tells the list with commas between.
func tellList[T any](t *teller, l []T, one func(T)) {
	for i, x := range l {
		if i > 0 {
			t.say(",")
		}
		one(x)
	}
}

// tellClosed tells the list in parentheses.
func tellClosed[T any](t *teller, l []T, one func(T)) {
	t.say("(")
	tellList(t, l, one)
	t.say(")")
}

func (t *teller) statement(s api.Stmt) {
	switch s.Kind {
	case api.Select:
		t.rows(s)
	case api.Insert:
		t.insert(s)
	case api.Update:
		t.say("update")
		t.name(s.Name)
		t.say("set")
		tellList(t, s.Sets, t.assign)
		t.where(s.Where)
	case api.Delete:
		t.say("delete", "from")
		t.name(s.Name)
		t.where(s.Where)
	case api.CreateTable:
		t.table(s)
	case api.CreateIndex:
		t.index(s)
	default:
		t.other(s)
	}
}

// other tells a statement that is no more than words and a name.
func (t *teller) other(s api.Stmt) {
	switch s.Kind {
	case api.Begin:
		t.say("begin")
	case api.Commit:
		t.say("commit")
	case api.Rollback:
		t.say("rollback")
	case api.Savepoint:
		t.say("savepoint")
		t.name(s.Name)
	case api.RollbackTo:
		t.say("rollback", "to")
		t.name(s.Name)
	}
}

func (t *teller) rows(s api.Stmt) {
	t.say("select")
	tellList(t, s.Items, t.item)
	t.say("from")
	for i, from := range s.From {
		if i > 0 {
			t.say("join")
		}
		t.name(from.Table)
		t.as(from.As)
		if i > 0 {
			t.say("on")
			t.expr(from.On)
		}
	}
	t.where(s.Where)
	if len(s.Group) > 0 {
		t.say("group", "by")
		tellList(t, s.Group, t.expr)
	}
	if len(s.Order) > 0 {
		t.say("order", "by")
		tellList(t, s.Order, t.order)
	}
	if s.Limit >= 0 {
		t.say("limit")
		t.number(uint64(s.Limit))
	}
}

func (t *teller) item(i api.Item) {
	if i.All {
		t.say("*")
		return
	}
	t.expr(i.Expr)
	t.as(i.As)
}

func (t *teller) as(name string) {
	if name != "" {
		t.say("as")
		t.name(name)
	}
}

func (t *teller) where(x api.Expr) {
	if x.Op != api.OpNone {
		t.say("where")
		t.expr(x)
	}
}

func (t *teller) order(o api.Order) {
	t.expr(o.Expr)
	if o.Desc {
		t.say("desc")
	}
}

func (t *teller) insert(s api.Stmt) {
	t.say("insert", "into")
	t.name(s.Name)
	if len(s.Names) > 0 {
		tellClosed(t, s.Names, t.name)
	}
	t.say("values")
	tellList(t, s.Rows, t.row)
}

func (t *teller) row(l []api.Expr) {
	tellClosed(t, l, t.expr)
}

func (t *teller) assign(a api.Assign) {
	t.name(a.Name)
	t.say("=")
	t.expr(a.Expr)
}

func (t *teller) table(s api.Stmt) {
	t.say("create", "table")
	t.name(s.Name)
	t.say("(")
	tellList(t, s.Columns, t.define)
	t.say(",", "primary", "key")
	tellClosed(t, s.Key, t.name)
	t.say(")")
}

func (t *teller) define(c api.Column) {
	t.name(c.Name)
	t.kind(c.Kind)
	if c.NotNull {
		t.say("not", "null")
	}
}

func (t *teller) kind(of api.Kind) {
	for _, k := range kinds {
		if k.kind == of {
			t.say(k.said)
		}
	}
}

func (t *teller) index(s api.Stmt) {
	t.say("create")
	if s.Unique {
		t.say("unique")
	}
	t.say("index")
	t.name(s.Name)
	t.say("on")
	t.name(s.Table)
	tellClosed(t, s.Names, t.name)
}

// expr tells an expression. Each has a token of its own: as soon as there are more of them than a text may have bytes, the rest is left alone, however deep it goes.
func (t *teller) expr(x api.Expr) {
	t.exprs++
	if t.exprs > api.MaxText {
		return
	}
	switch len(x.Args) {
	case 0:
		t.ofNone(x)
	case 1:
		t.ofOne(x.Op, x.Args[0])
	case 2:
		t.ofTwo(x.Op, x.Args[0], x.Args[1])
	}
}

// operand tells an expression in parentheses, if its rank is below least.
func (t *teller) operand(x api.Expr, least int) {
	if rankOf(x.Op) >= least {
		t.expr(x)
		return
	}
	t.say("(")
	t.expr(x)
	t.say(")")
}

func (t *teller) ofNone(x api.Expr) {
	switch x.Op {
	case api.OpValue:
		t.literal(x.Value)
	case api.OpName:
		if x.Table != "" {
			t.name(x.Table)
			t.say(".")
		}
		t.name(x.Name)
	case api.OpCountAll:
		t.say("count", "(", "*", ")")
	}
}

func (t *teller) literal(v api.Value) {
	switch {
	case v.Kind == api.Null:
		t.say("null")
	case v.Kind == api.Bool && v.Int == 0:
		t.say("false")
	case v.Kind == api.Bool:
		t.say("true")
	case v.Kind == api.Int && v.Int < 0:
		t.say("-")
		t.number(-uint64(v.Int)) // the least Int is told so, too
	case v.Kind == api.Int:
		t.number(uint64(v.Int))
	case v.Kind == api.Text:
		t.add(api.Token{Kind: api.TextToken, Text: v.Text})
	}
}

func (t *teller) ofOne(op api.Op, x api.Expr) {
	switch op {
	case api.OpNot:
		t.say("not")
		t.operand(x, rankNot)
	case api.OpNeg:
		t.negated(x)
	case api.OpIsNull:
		t.operand(x, rankSum)
		t.say("is", "null")
	case api.OpNotNull:
		t.operand(x, rankSum)
		t.say("is", "not", "null")
	default:
		t.aggregate(op, x)
	}
}

// negated tells a - of its own and what stands behind it: a number without parentheses would take the - for itself.
func (t *teller) negated(x api.Expr) {
	t.say("-")
	if x.Op == api.OpValue && x.Value.Kind == api.Int && x.Value.Int >= 0 {
		t.say("(")
		t.expr(x)
		t.say(")")
		return
	}
	t.operand(x, rankUnary)
}

func (t *teller) aggregate(op api.Op, x api.Expr) {
	for _, a := range aggregates {
		if a.op == op {
			t.say(a.said, "(")
			t.expr(x)
			t.say(")")
		}
	}
}

// ofTwo tells an operation of two. A comparison has none of its rank as an operand, the others one on the left.
func (t *teller) ofTwo(op api.Op, a, b api.Expr) {
	o, ok := operationOf(op)
	if !ok {
		return
	}
	left := o.rank
	if left == rankCompare {
		left++
	}
	t.operand(a, left)
	t.say(o.said)
	t.operand(b, o.rank+1)
}
