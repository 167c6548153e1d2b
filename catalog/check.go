package catalog

import (
	"stagepost/api"
	"stagepost/parser"
)

// maxStatements is the greatest number of statements of a text (14), so of tables and indexes of a catalog.
const maxStatements = 64

// mayBe says whether some text makes the catalog. Its tables' numbers say how many there may be.
func mayBe(c api.Catalog) bool {
	statements := len(c.Tables)
	for i, t := range c.Tables {
		ahead := c.Tables[:i]
		if t.Number != i+1 || !tableMayBe(t) || tableAt(ahead, t.Name) >= 0 {
			return false
		}
		for _, x := range t.Indexes {
			if hasIndex(ahead, x.Name) {
				return false
			}
		}
		statements += len(t.Indexes)
	}
	return statements <= maxStatements
}

// tableMayBe says whether some text makes a catalog with the table. As many tables as its number asks for may be ahead of it, with any names.
func tableMayBe(t api.Table) bool {
	return 1 <= t.Number && t.Number <= api.MaxCatalog && isName(t.Name) && columnsMayBe(t.Columns) && keyMayBe(t) && indexesMayBe(t)
}

func columnsMayBe(l []api.Column) bool {
	if len(l) < 1 || len(l) > api.MaxColumns || twoOfOneName(l) {
		return false
	}
	for _, column := range l {
		if !isName(column.Name) || !kindMayBe(column.Kind) {
			return false
		}
	}
	return true
}

func kindMayBe(k api.Kind) bool {
	return k == api.Bool || k == api.Int || k == api.Text
}

func keyMayBe(t api.Table) bool {
	if !placesMayBe(t.Key, len(t.Columns)) {
		return false
	}
	for _, place := range t.Key {
		if !t.Columns[place].NotNull {
			return false
		}
	}
	return true
}

func indexesMayBe(t api.Table) bool {
	if len(t.Indexes) > api.MaxIndexes {
		return false
	}
	for i, x := range t.Indexes {
		if x.Number != i+1 || indexAt(t.Indexes[:i], x.Name) >= 0 || !isName(x.Name) || !placesMayBe(x.Columns, len(t.Columns)) {
			return false
		}
	}
	return true
}

// placesMayBe says whether l may be a key's, or an index', places among so many columns.
func placesMayBe(l []int, columns int) bool {
	if len(l) < 1 || len(l) > api.MaxKeys || oneTwice(l) {
		return false
	}
	for _, place := range l {
		if place < 0 || place >= columns {
			return false
		}
	}
	return true
}

// isName says whether s is a name, told as statements have it: as an expression it is a column that says just s.
func isName(s string) bool {
	x, fault := parser.Expr(s)
	return fault.Err == api.OK && x.Name == s
}
