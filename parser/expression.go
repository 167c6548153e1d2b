package parser

import (
	"math"

	"stagepost/api"
)

// oneExpression reads an expression that all tokens are.
func (r *reader) oneExpression() api.Expr {
	x := r.expr()
	r.end()
	return x
}

func (r *reader) expr() api.Expr {
	return r.chain(rankOr, r.and)
}

func (r *reader) and() api.Expr {
	return r.chain(rankAnd, r.not)
}

func (r *reader) not() api.Expr {
	if r.has("not") {
		return ofOne(api.OpNot, r.deeper(r.not))
	}
	return r.compare()
}

func (r *reader) compare() api.Expr {
	x := r.sum()
	if r.took("is") {
		return ofOne(r.nullness(), x)
	}
	if op, ok := r.operation(rankCompare); ok {
		return ofTwo(op, x, r.sum())
	}
	return x
}

// nullness reads what stands behind IS.
func (r *reader) nullness() api.Op {
	op := api.OpIsNull
	if r.took("not") {
		op = api.OpNotNull
	}
	r.want("null")
	return op
}

func (r *reader) sum() api.Expr {
	return r.chain(rankSum, r.product)
}

func (r *reader) product() api.Expr {
	return r.chain(rankProduct, r.unary)
}

// chain reads operands, parted by operations of that rank: they stand to the left.
func (r *reader) chain(rank int, operand func() api.Expr) api.Expr {
	x := operand()
	for {
		op, ok := r.operation(rank)
		if !ok {
			return x
		}
		x = ofTwo(op, x, operand())
	}
}

// operation reads an operation of two of that rank, if one is next.
func (r *reader) operation(rank int) (api.Op, bool) {
	for _, o := range operations {
		if o.rank == rank && r.took(o.said) {
			return o.op, true
		}
	}
	return api.OpNone, false
}

func (r *reader) unary() api.Expr {
	switch {
	case !r.has("-"):
		return r.primary()
	case r.isOfNumber():
		r.place++
		return literal(api.Value{Kind: api.Int, Int: -int64(r.number(1 << 63))})
	}
	return ofOne(api.OpNeg, r.deeper(r.unary))
}

// isOfNumber says whether a number stands behind the next token.
func (r *reader) isOfNumber() bool {
	behind := r.place + 1
	return behind < len(r.tokens) && r.tokens[behind].Kind == api.NumberToken
}

// deeper reads the next token, and what belongs to it, which it makes one deeper.
func (r *reader) deeper(belongs func() api.Expr) api.Expr {
	if r.depth == api.MaxDepth {
		panic(r.fault(api.ErrDepth))
	}
	r.place++
	r.depth++
	x := belongs()
	r.depth--
	return x
}

func (r *reader) primary() api.Expr {
	t := r.next()
	switch {
	case t.Kind == api.NumberToken:
		return literal(api.Value{Kind: api.Int, Int: int64(r.number(math.MaxInt64))})
	case t.Kind == api.TextToken:
		r.place++
		return literal(api.Value{Kind: api.Text, Text: t.Text})
	case r.took("true"):
		return literal(api.Value{Kind: api.Bool, Int: 1})
	case r.took("false"):
		return literal(api.Value{Kind: api.Bool})
	case r.took("null"):
		return literal(api.Value{})
	case r.has("("):
		return r.deeper(r.enclosed)
	case r.has("count"):
		return r.deeper(r.count)
	}
	for _, a := range aggregates {
		if r.has(a.said) {
			return ofOne(a.op, r.deeper(r.argument))
		}
	}
	return r.column()
}

// enclosed reads an expression and the parenthesis behind it.
func (r *reader) enclosed() api.Expr {
	x := r.expr()
	r.want(")")
	return x
}

// argument reads an expression in parentheses that belong to the word ahead: they go no deeper than that.
func (r *reader) argument() api.Expr {
	r.want("(")
	return r.enclosed()
}

// count reads what stands behind COUNT.
func (r *reader) count() api.Expr {
	r.want("(")
	if r.took("*") {
		r.want(")")
		return api.Expr{Op: api.OpCountAll}
	}
	return ofOne(api.OpCount, r.enclosed())
}

// column reads a column, with the name of its table ahead of it or without.
func (r *reader) column() api.Expr {
	x := api.Expr{Op: api.OpName, Name: r.name()}
	if r.took(".") {
		x.Table, x.Name = x.Name, r.name()
	}
	return x
}

func literal(v api.Value) api.Expr {
	return api.Expr{Op: api.OpValue, Value: v}
}

func ofOne(op api.Op, x api.Expr) api.Expr {
	return api.Expr{Op: op, Args: []api.Expr{x}}
}

func ofTwo(op api.Op, a, b api.Expr) api.Expr {
	return api.Expr{Op: op, Args: []api.Expr{a, b}}
}
