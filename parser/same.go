package parser

import (
	"slices"

	"stagepost/api"
)

// Same says whether all fields of both statements are the same.
func Same(a, b api.Stmt) bool {
	return a.Kind == b.Kind && a.Name == b.Name && a.Table == b.Table && a.Unique == b.Unique && a.Limit == b.Limit &&
		slices.Equal(a.Columns, b.Columns) && slices.Equal(a.Key, b.Key) && slices.Equal(a.Names, b.Names) &&
		slices.EqualFunc(a.Rows, b.Rows, sameList) && slices.EqualFunc(a.Items, b.Items, sameItem) &&
		slices.EqualFunc(a.From, b.From, sameSource) && SameExpr(a.Where, b.Where) && sameList(a.Group, b.Group) &&
		slices.EqualFunc(a.Order, b.Order, sameOrder) && slices.EqualFunc(a.Sets, b.Sets, sameAssign)
}

// SameExpr says whether all fields of both expressions are the same.
func SameExpr(a, b api.Expr) bool {
	return a.Op == b.Op && a.Value == b.Value && a.Table == b.Table && a.Name == b.Name &&
		a.Slot == b.Slot && a.Kind == b.Kind && sameList(a.Args, b.Args)
}

func sameList(a, b []api.Expr) bool {
	return slices.EqualFunc(a, b, SameExpr)
}

func sameItem(a, b api.Item) bool {
	return a.All == b.All && a.As == b.As && SameExpr(a.Expr, b.Expr)
}

func sameSource(a, b api.Source) bool {
	return a.Table == b.Table && a.As == b.As && SameExpr(a.On, b.On)
}

func sameOrder(a, b api.Order) bool {
	return a.Desc == b.Desc && SameExpr(a.Expr, b.Expr)
}

func sameAssign(a, b api.Assign) bool {
	return a.Name == b.Name && a.Slot == b.Slot && SameExpr(a.Expr, b.Expr)
}
