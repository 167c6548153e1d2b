package check

import (
	"cmp"

	"stagepost/api"
	"stagepost/catalog"
)

// source is a table that a statement speaks of: its name there, its columns, and the slot of the first of these.
type source struct {
	name    string
	columns []api.Column
	first   int
}

// sourcesOf answers the statement's sources: ErrName, if one is no table, ErrTwice, if one ahead has its name.
func sourcesOf(c api.Catalog, s api.Stmt) ([]source, api.Errno) {
	var l []source
	first := 0
	for _, from := range toldSources(s) {
		t, ok := catalog.Find(c, from.Table)
		if !ok {
			return nil, api.ErrName
		}
		name := cmp.Or(from.As, from.Table)
		if isSource(l, name) {
			return nil, api.ErrTwice
		}
		l = append(l, source{name: name, columns: t.Columns, first: first})
		first += len(t.Columns)
	}
	return l, api.OK
}

// toldSources answers what the statement tells of its sources.
func toldSources(s api.Stmt) []api.Source {
	switch s.Kind {
	case api.Select:
		return s.From
	case api.Insert, api.Update, api.Delete:
		return []api.Source{{Table: s.Name}}
	}
	return nil
}

func isSource(l []source, name string) bool {
	for _, from := range l {
		if from.name == name {
			return true
		}
	}
	return false
}

// slotOf answers which slot the column says, and of which kind it is: ErrName, if none of the sources has it, ErrTwice, if two have it. An empty table is any of them.
func slotOf(l []source, table, name string) (int, api.Kind, api.Errno) {
	slot, kind, e := 0, api.Null, api.ErrName
	for _, from := range l {
		place := columnAt(from.columns, name)
		if place < 0 || table != "" && table != from.name {
			continue
		}
		if e == api.OK {
			return 0, api.Null, api.ErrTwice
		}
		slot, kind, e = from.first+place, from.columns[place].Kind, api.OK
	}
	return slot, kind, e
}

// columnAt answers the place of the column with that name, or -1.
func columnAt(l []api.Column, name string) int {
	for i, column := range l {
		if column.Name == name {
			return i
		}
	}
	return -1
}
