package catalog

import (
	"slices"

	"stagepost/api"
	"stagepost/enc"
)

const (
	rows  = 0 // stands in a row's key where an entry's has the index' number
	ahead = 2 // so many values stand ahead of a row's in a key: the table's number, and the index'
)

// Fits answers ErrArg or ErrNotNull of a row that does not fit into the table.
func Fits(t api.Table, row []api.Value) api.Errno {
	if e := CheckTable(t); e != api.OK {
		return e
	}
	return fits(t, row)
}

// Row answers the row's key and value.
func Row(t api.Table, row []api.Value) (api.KV, api.Errno) {
	if e := CheckTable(t); e != api.OK {
		return api.KV{}, e
	}
	return laid(t, row)
}

// Entries answers the row's entries, in the order of the table's indexes.
func Entries(t api.Table, row []api.Value) ([]api.KV, api.Errno) {
	if _, e := Row(t, row); e != api.OK {
		return nil, e
	}
	var l []api.KV
	for _, x := range t.Indexes {
		kv := entry(t, x, row)
		if len(kv.Key) > api.MaxKey {
			return nil, api.ErrLong
		}
		l = append(l, kv)
	}
	return l, api.OK
}

// Unrow answers the row whose key and value kv is.
func Unrow(t api.Table, kv api.KV) ([]api.Value, api.Errno) {
	if e := CheckTable(t); e != api.OK {
		return nil, e
	}
	row, e := enc.Values(kv.Value)
	if e != api.OK {
		return nil, api.ErrBad
	}
	if back, e := laid(t, row); e != api.OK || back != kv {
		return nil, api.ErrBad
	}
	return row, api.OK
}

// Points answers the key of a row whose entry in that index kv is.
func Points(t api.Table, index int, kv api.KV) (string, api.Errno) {
	if CheckTable(t) != api.OK || index < 1 || index > len(t.Indexes) {
		return "", api.ErrArg
	}
	x := t.Indexes[index-1]
	row, ok := rowOf(t, x, kv)
	if !ok || len(kv.Key) > api.MaxKey {
		return "", api.ErrBad
	}
	at, e := laid(t, row)
	if e != api.OK || entry(t, x, row) != kv {
		return "", api.ErrBad
	}
	return at.Key, api.OK
}

// Begins answers the span of all keys of rows (index 0), or of entries, that begin with the values l.
func Begins(t api.Table, index int, l []api.Value) (api.Span, api.Errno) {
	if CheckTable(t) != api.OK || index < rows || index > len(t.Indexes) {
		return api.Span{}, api.ErrArg
	}
	columns := t.Key
	if index != rows {
		columns = t.Indexes[index-1].Columns
	}
	if len(l) > len(columns) {
		return api.Span{}, api.ErrArg
	}
	return enc.Begins(slices.Concat(numbers(t, index), l))
}

// fits is Fits of a table that may be.
func fits(t api.Table, row []api.Value) api.Errno {
	if len(row) != len(t.Columns) {
		return api.ErrArg
	}
	for i, v := range row {
		if enc.Check(v) != api.OK || v.Kind != api.Null && v.Kind != t.Columns[i].Kind {
			return api.ErrArg
		}
	}
	for i, v := range row {
		if v.Kind == api.Null && t.Columns[i].NotNull {
			return api.ErrNotNull
		}
	}
	return api.OK
}

// laid is Row of a table that may be.
func laid(t api.Table, row []api.Value) (api.KV, api.Errno) {
	if e := fits(t, row); e != api.OK {
		return api.KV{}, e
	}
	kv := api.KV{Key: tuple(numbers(t, rows), valuesAt(row, t.Key)), Value: tuple(row)}
	if len(kv.Key) > api.MaxKey {
		return api.KV{}, api.ErrLong
	}
	return kv, api.OK
}

// entry answers the entry in x of a row that fits, however long its key is.
func entry(t api.Table, x api.Index, row []api.Value) api.KV {
	values, key := valuesAt(row, x.Columns), valuesAt(row, t.Key)
	if x.Unique && !slices.ContainsFunc(values, isNull) {
		return api.KV{Key: tuple(numbers(t, x.Number), values), Value: tuple(key)}
	}
	return api.KV{Key: tuple(numbers(t, x.Number), values, key)}
}

func isNull(v api.Value) bool { return v.Kind == api.Null }

// rowOf answers a row that has the values of the entry kv, and, where that says none, some that fit. Whether kv is really its entry has to be seen by making that.
func rowOf(t api.Table, x api.Index, kv api.KV) ([]api.Value, bool) {
	l, e := enc.Values(kv.Key)
	behind, bad := enc.Values(kv.Value)
	l = append(l, behind...)
	columns := slices.Concat(x.Columns, t.Key)
	if e != api.OK || bad != api.OK || len(l) != ahead+len(columns) {
		return nil, false
	}
	row := make([]api.Value, len(t.Columns))
	for i, column := range t.Columns {
		row[i].Kind = column.Kind
	}
	for i, place := range columns {
		row[place] = l[ahead+i]
	}
	return row, true
}

// numbers are the values with which keys of the table's rows, or of the entries of one of its indexes, begin.
func numbers(t api.Table, index int) []api.Value {
	return []api.Value{{Kind: api.Int, Int: int64(t.Number)}, {Kind: api.Int, Int: int64(index)}}
}

func valuesAt(row []api.Value, places []int) []api.Value {
	var l []api.Value
	for _, place := range places {
		l = append(l, row[place])
	}
	return l
}

// tuple answers the text of the values of all lists, one behind the other. They may be, and are few enough.
func tuple(lists ...[]api.Value) string {
	s, _ := enc.Tuple(slices.Concat(lists...))
	return s
}
