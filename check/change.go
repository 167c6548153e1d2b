package check

import (
	"slices"
	"strings"

	"stagepost/api"
)

func boundInsert(into source, s api.Stmt) (api.Stmt, api.Errno) {
	places, e := placesOf(into.columns, s.Names)
	if e != api.OK {
		return api.Stmt{}, e
	}
	b := api.Stmt{Kind: api.Insert, Name: strings.Clone(s.Name)}
	for _, told := range s.Rows {
		row, e := boundRow(into.columns, places, told)
		if e != api.OK {
			return api.Stmt{}, e
		}
		b.Rows = append(b.Rows, row)
	}
	for _, column := range into.columns {
		b.Names = append(b.Names, column.Name)
	}
	return b, api.OK
}

// placesOf answers the places of the columns with these names, of all of them without names: ErrName, if one is none, ErrTwice, if one is there twice.
func placesOf(columns []api.Column, names []string) ([]int, api.Errno) {
	var places []int
	for _, name := range names {
		place := columnAt(columns, name)
		if place < 0 {
			return nil, api.ErrName
		}
		places = append(places, place)
	}
	for i, place := range places {
		if slices.Contains(places[:i], place) {
			return nil, api.ErrTwice
		}
	}
	if len(names) == 0 {
		for place := range columns {
			places = append(places, place)
		}
	}
	return places, api.OK
}

// boundRow answers a row of all columns: what is told of those at the places, Null of the others.
func boundRow(columns []api.Column, places []int, told []api.Expr) ([]api.Expr, api.Errno) {
	if len(told) != len(places) {
		return nil, api.ErrCount
	}
	row := make([]api.Expr, len(columns))
	for i := range row {
		row[i] = literal(api.Value{})
	}
	for i, place := range places {
		x, e := scope{}.fitting(told[i], columns[place].Kind)
		if e != api.OK {
			return nil, e
		}
		row[place] = x
	}
	return row, api.OK
}

func boundUpdate(sources []source, s api.Stmt) (api.Stmt, api.Errno) {
	b, columns := api.Stmt{Kind: api.Update, Name: strings.Clone(s.Name)}, sources[0].columns
	for i, set := range s.Sets {
		place := columnAt(columns, set.Name)
		if place < 0 {
			return api.Stmt{}, api.ErrName
		}
		if isSet(s.Sets[:i], set.Name) {
			return api.Stmt{}, api.ErrTwice
		}
		x, e := scope{visible: sources}.fitting(set.Expr, columns[place].Kind)
		if e != api.OK {
			return api.Stmt{}, e
		}
		b.Sets = append(b.Sets, api.Assign{Name: strings.Clone(set.Name), Expr: x, Slot: place})
	}
	where, e := condition(sources, s.Where)
	if e != api.OK {
		return api.Stmt{}, e
	}
	b.Where = where
	return b, api.OK
}

func isSet(l []api.Assign, name string) bool {
	return slices.ContainsFunc(l, func(set api.Assign) bool { return set.Name == name })
}

func boundDelete(sources []source, s api.Stmt) (api.Stmt, api.Errno) {
	where, e := condition(sources, s.Where)
	if e != api.OK {
		return api.Stmt{}, e
	}
	return api.Stmt{Kind: api.Delete, Name: strings.Clone(s.Name), Where: where}, api.OK
}
