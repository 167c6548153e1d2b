package catalog

import (
	"slices"

	"stagepost/api"
)

// statements are those that make the catalog, which may be.
func statements(c api.Catalog) []api.Stmt {
	var l []api.Stmt
	for _, t := range c.Tables {
		l = append(l, tableStatement(t))
		for _, x := range t.Indexes {
			l = append(l, indexStatement(t, x))
		}
	}
	return l
}

func tableStatement(t api.Table) api.Stmt {
	columns := slices.Clone(t.Columns)
	for _, place := range t.Key {
		columns[place].NotNull = false // the key says it
	}
	return api.Stmt{Kind: api.CreateTable, Name: t.Name, Columns: columns, Key: namesOf(t.Columns, t.Key)}
}

func indexStatement(t api.Table, x api.Index) api.Stmt {
	return api.Stmt{Kind: api.CreateIndex, Name: x.Name, Table: t.Name, Unique: x.Unique, Names: namesOf(t.Columns, x.Columns)}
}

func namesOf(columns []api.Column, places []int) []string {
	var l []string
	for _, place := range places {
		l = append(l, columns[place].Name)
	}
	return l
}
