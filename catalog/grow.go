package catalog

import (
	"slices"

	"stagepost/api"
)

// grown answers the catalog that c and the statement make, or why the statement does not go. It leaves c as it is.
func grown(c api.Catalog, s api.Stmt) (api.Catalog, api.Errno) {
	switch s.Kind {
	case api.CreateTable:
		return withTable(c, s)
	case api.CreateIndex:
		return withIndex(c, s)
	}
	return api.Catalog{}, api.ErrArg
}

func withTable(c api.Catalog, s api.Stmt) (api.Catalog, api.Errno) {
	if len(c.Tables) >= api.MaxCatalog {
		return api.Catalog{}, api.ErrLong
	}
	if tableAt(c.Tables, s.Name) >= 0 || twoOfOneName(s.Columns) {
		return api.Catalog{}, api.ErrThere
	}
	key, e := places(s.Columns, s.Key)
	if e != api.OK {
		return api.Catalog{}, e
	}
	columns := slices.Clone(s.Columns)
	for _, place := range key {
		columns[place].NotNull = true
	}
	t := api.Table{Name: s.Name, Number: len(c.Tables) + 1, Columns: columns, Key: key}
	return api.Catalog{Tables: append(slices.Clone(c.Tables), t)}, api.OK
}

func withIndex(c api.Catalog, s api.Stmt) (api.Catalog, api.Errno) {
	at := tableAt(c.Tables, s.Table)
	if at < 0 {
		return api.Catalog{}, api.ErrMissing
	}
	t := c.Tables[at]
	if len(t.Indexes) >= api.MaxIndexes {
		return api.Catalog{}, api.ErrLong
	}
	if hasIndex(c.Tables, s.Name) {
		return api.Catalog{}, api.ErrThere
	}
	columns, e := places(t.Columns, s.Names)
	if e != api.OK {
		return api.Catalog{}, e
	}
	x := api.Index{Name: s.Name, Number: len(t.Indexes) + 1, Columns: columns, Unique: s.Unique}
	t.Indexes = append(slices.Clone(t.Indexes), x)
	tables := slices.Clone(c.Tables)
	tables[at] = t
	return api.Catalog{Tables: tables}, api.OK
}

// places answers where the columns with these names stand: ErrMissing, if one is none, ErrThere, if one is there twice.
func places(columns []api.Column, names []string) ([]int, api.Errno) {
	var l []int
	for _, name := range names {
		at := columnAt(columns, name)
		if at < 0 {
			return nil, api.ErrMissing
		}
		l = append(l, at)
	}
	if oneTwice(l) {
		return nil, api.ErrThere
	}
	return l, api.OK
}

// oneTwice says whether a place is there twice.
func oneTwice(l []int) bool {
	for i, place := range l {
		if slices.Contains(l[:i], place) {
			return true
		}
	}
	return false
}

func twoOfOneName(l []api.Column) bool {
	for i, column := range l {
		if columnAt(l[:i], column.Name) >= 0 {
			return true
		}
	}
	return false
}

// tableAt answers the place of the first table with that name, or -1.
func tableAt(l []api.Table, name string) int {
	for i, t := range l {
		if t.Name == name {
			return i
		}
	}
	return -1
}

// columnAt answers the place of the first column with that name, or -1.
func columnAt(l []api.Column, name string) int {
	for i, column := range l {
		if column.Name == name {
			return i
		}
	}
	return -1
}

// hasIndex says whether one of the tables has an index with that name.
func hasIndex(l []api.Table, name string) bool {
	for _, t := range l {
		if indexAt(t.Indexes, name) >= 0 {
			return true
		}
	}
	return false
}

// indexAt answers the place of the first index with that name, or -1.
func indexAt(l []api.Index, name string) int {
	for i, x := range l {
		if x.Name == name {
			return i
		}
	}
	return -1
}
