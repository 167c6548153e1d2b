package check

import (
	"slices"
	"strings"

	"stagepost/api"
)

func boundSelect(sources []source, s api.Stmt) (api.Stmt, api.Errno) {
	b := api.Stmt{Kind: api.Select, Limit: s.Limit}
	var e api.Errno
	if b.From, e = boundFrom(sources, s.From); e != api.OK {
		return api.Stmt{}, e
	}
	if b.Where, e = condition(sources, s.Where); e != api.OK {
		return api.Stmt{}, e
	}
	if b.Group, e = boundGroup(sources, s.Group); e != api.OK {
		return api.Stmt{}, e
	}
	row := scope{visible: sources, group: slotsIn(b.Group), grouped: isGrouped(s), aggregates: true}
	if b.Items, e = row.items(s.Items); e != api.OK {
		return api.Stmt{}, e
	}
	if b.Order, e = row.order(s.Order); e != api.OK {
		return api.Stmt{}, e
	}
	if len(b.Items) > api.MaxTold {
		return api.Stmt{}, api.ErrLong
	}
	return b, api.OK
}

// boundFrom answers the sources with their bound Ons. What stands behind a source is not visible to its On.
func boundFrom(sources []source, l []api.Source) ([]api.Source, api.Errno) {
	var all []api.Source
	for i, from := range l {
		on, e := condition(sources[:i+1], from.On)
		if e != api.OK {
			return nil, e
		}
		all = append(all, api.Source{Table: strings.Clone(from.Table), As: strings.Clone(from.As), On: on})
	}
	return all, api.OK
}

// boundGroup answers the bound columns of a group: ErrTwice, if two say one slot.
func boundGroup(sources []source, l []api.Expr) ([]api.Expr, api.Errno) {
	var group []api.Expr
	for _, x := range l {
		b, e := scope{visible: sources}.column(x)
		if e != api.OK {
			return nil, e
		}
		group = append(group, b)
	}
	slots := slotsIn(group)
	for i, slot := range slots {
		if slices.Contains(slots[:i], slot) {
			return nil, api.ErrTwice
		}
	}
	return group, api.OK
}

// slotsIn answers the slots of bound columns.
func slotsIn(l []api.Expr) []int {
	var slots []int
	for _, x := range l {
		slots = append(slots, x.Slot)
	}
	return slots
}

// isGrouped says whether what the SELECT tells is of groups.
func isGrouped(s api.Stmt) bool {
	return len(s.Group) > 0 ||
		slices.ContainsFunc(s.Items, func(item api.Item) bool { return hasAggregate(item.Expr) }) ||
		slices.ContainsFunc(s.Order, func(by api.Order) bool { return hasAggregate(by.Expr) })
}

func (in scope) items(l []api.Item) ([]api.Item, api.Errno) {
	var all []api.Item
	for _, item := range l {
		for _, one := range in.spread(item) {
			b, e := in.expr(one.Expr)
			if e != api.OK {
				return nil, e
			}
			all = append(all, api.Item{Expr: b, As: called(one)})
		}
	}
	return all, api.OK
}

// spread answers the items that an item stands for: one for each slot, where it is All.
func (in scope) spread(item api.Item) []api.Item {
	if !item.All {
		return []api.Item{item}
	}
	var all []api.Item
	for _, from := range in.visible {
		for _, column := range from.columns {
			all = append(all, api.Item{Expr: api.Expr{Op: api.OpName, Table: from.name, Name: column.Name}})
		}
	}
	return all
}

// called answers what the item is called: a column without another name as it is.
func called(item api.Item) string {
	if item.As == "" && item.Expr.Op == api.OpName {
		return strings.Clone(item.Expr.Name)
	}
	return strings.Clone(item.As)
}

func (in scope) order(l []api.Order) ([]api.Order, api.Errno) {
	var all []api.Order
	for _, by := range l {
		b, e := in.expr(by.Expr)
		if e != api.OK {
			return nil, e
		}
		all = append(all, api.Order{Expr: b, Desc: by.Desc})
	}
	return all, api.OK
}
