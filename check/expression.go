package check

import (
	"slices"
	"strings"

	"stagepost/api"
	"stagepost/value"
)

// scope is what an expression may speak of, where it stands.
type scope struct {
	visible    []source
	group      []int // the slots that a row of a group has one value of
	grouped    bool  // a column must be one of these
	aggregates bool  // there may be aggregates
}

// expr answers the expression with its slots and kinds, or its first error: it goes through the Args, from left to right, then through itself.
func (in scope) expr(x api.Expr) (api.Expr, api.Errno) {
	switch {
	case x.Op == api.OpValue:
		return literal(x.Value), api.OK
	case x.Op == api.OpName:
		return in.column(x)
	case isAggregate(x.Op) && !in.aggregates:
		return api.Expr{}, api.ErrGroup
	case isAggregate(x.Op):
		in = scope{visible: in.visible} // all rows of a group, and no other aggregate
	}
	b := api.Expr{Op: x.Op}
	var kinds []api.Kind
	for _, arg := range x.Args {
		a, e := in.expr(arg)
		if e != api.OK {
			return api.Expr{}, e
		}
		b.Args = append(b.Args, a)
		kinds = append(kinds, a.Kind)
	}
	kind, e := given(x.Op, kinds)
	if e != api.OK {
		return api.Expr{}, e
	}
	b.Kind = kind
	return b, api.OK
}

func literal(v api.Value) api.Expr {
	v.Text = strings.Clone(v.Text)
	return api.Expr{Op: api.OpValue, Value: v, Kind: v.Kind}
}

func (in scope) column(x api.Expr) (api.Expr, api.Errno) {
	slot, kind, e := slotOf(in.visible, x.Table, x.Name)
	if e != api.OK {
		return api.Expr{}, e
	}
	if in.grouped && !slices.Contains(in.group, slot) {
		return api.Expr{}, api.ErrGroup
	}
	return api.Expr{Op: api.OpName, Table: strings.Clone(x.Table), Name: strings.Clone(x.Name), Slot: slot, Kind: kind}, api.OK
}

// given answers the kind of what an operation or an aggregate makes of values of these kinds.
func given(op api.Op, kinds []api.Kind) (api.Kind, api.Errno) {
	switch op {
	case api.OpCountAll, api.OpCount:
		return api.Int, api.OK
	case api.OpSum:
		if !goesWith(kinds[0], api.Int) {
			return api.Null, api.ErrType
		}
		return api.Int, api.OK
	case api.OpMin, api.OpMax:
		return kinds[0], api.OK
	}
	return value.Gives(op, kinds...)
}

// goesWith says whether what is of the kind k may stand where one of the kind asked is asked for.
func goesWith(k, asked api.Kind) bool {
	return k == asked || k == api.Null
}

// fitting answers the bound expression: ErrType, if its kind does not go with the one that is asked.
func (in scope) fitting(x api.Expr, asked api.Kind) (api.Expr, api.Errno) {
	b, e := in.expr(x)
	if e != api.OK {
		return api.Expr{}, e
	}
	if !goesWith(b.Kind, asked) {
		return api.Expr{}, api.ErrType
	}
	return b, api.OK
}

// condition answers the bound condition over what is visible, or none of none.
func condition(visible []source, x api.Expr) (api.Expr, api.Errno) {
	if x.Op == api.OpNone {
		return api.Expr{}, api.OK
	}
	return scope{visible: visible}.fitting(x, api.Bool)
}

func isAggregate(op api.Op) bool {
	switch op {
	case api.OpCountAll, api.OpCount, api.OpSum, api.OpMin, api.OpMax:
		return true
	}
	return false
}

// hasAggregate says whether the expression is an aggregate, or has one in it.
func hasAggregate(x api.Expr) bool {
	return isAggregate(x.Op) || slices.ContainsFunc(x.Args, hasAggregate)
}
