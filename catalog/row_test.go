package catalog

import (
	"slices"
	"strings"
	"testing"

	"stagepost/api"
)

// These are the tests of P15.2.

// plain is a table of one column of each kind of each sort: a key's, one that may have no Null, one that may.
const plain = "create table t ( a int , b text , c bool , d int not null , e text not null , f bool not null , g int , h text , i bool , primary key ( c , a , b ) )"

// plainRow fits into it.
func plainRow() []api.Value {
	return list(num(1), word("b"), yes(), num(4), word("e"), no(), num(7), word("h"), yes())
}

func TestFitsOfEachKindInEachColumn(t *testing.T) {
	x := table(t, plain)
	values := list(null(), no(), yes(), num(0), num(1), num(-1<<63), num(1<<63-1), word(""), word("x"), word("\xff\x00"), zeros(64, 64))
	for i, column := range x.Columns {
		for _, v := range values {
			row := plainRow()
			row[i] = v
			want := api.ErrArg
			switch {
			case v.Kind == column.Kind, v.Kind == api.Null && i >= 6:
				want = api.OK
			case v.Kind == api.Null:
				want = api.ErrNotNull
			}
			fitsSo(t, x, row, want)
			if want == api.OK {
				isRow(t, x, row, kv(list(num(1), num(0), row[2], row[0], row[1]), row))
				hasEntries(t, x, row)
			} else {
				isNoRow(t, x, row, want)
				hasNoEntries(t, x, row, want)
			}
		}
	}
}

func TestFitsOfTooFewAndTooManyValues(t *testing.T) {
	for _, text := range []string{plain, example, tables(1)} {
		x := table(t, text)
		row := slices.Repeat(plainRow()[:3], 6)
		if len(x.Columns) == 9 {
			row = slices.Repeat(plainRow(), 2)
		}
		for n := range row {
			want := api.ErrArg
			if n == len(x.Columns) {
				want = api.OK
			}
			fitsSo(t, x, row[:n], want)
			if want != api.OK {
				isNoRow(t, x, row[:n], want)
				hasNoEntries(t, x, row[:n], want)
			}
		}
		fitsSo(t, x, nil, api.ErrArg)
	}
}

func TestFitsOfValuesThatMayNotBe(t *testing.T) {
	x := table(t, plain)
	for i := range x.Columns {
		for _, v := range wrong() {
			row := plainRow()
			row[i] = v
			fitsSo(t, x, row, api.ErrArg)
			isNoRow(t, x, row, api.ErrArg)
			hasNoEntries(t, x, row, api.ErrArg)
		}
	}
}

// TestErrArgIsAheadOfErrNotNull, wherever in the row both are.
func TestErrArgIsAheadOfErrNotNull(t *testing.T) {
	x := table(t, plain)
	for i := range 6 {
		for j := range x.Columns {
			if i == j {
				continue
			}
			row := plainRow()
			row[i] = null()
			fitsSo(t, x, row, api.ErrNotNull)
			fitsSo(t, x, row[:8], api.ErrArg)
			fitsSo(t, x, append(row, null()), api.ErrArg)
			for _, v := range append(wrong(), other(x.Columns[j].Kind)) {
				row[j] = v
				fitsSo(t, x, row, api.ErrArg)
				isNoRow(t, x, row, api.ErrArg)
				hasNoEntries(t, x, row, api.ErrArg)
			}
		}
	}
}

// other is a value of another kind, no Null.
func other(k api.Kind) api.Value {
	if k == api.Int {
		return word("x")
	}
	return num(1)
}

// fours is a table of five texts, of which four are the key.
const fours = "create table t ( a text , b text , c text , d text , e text , primary key ( a , b , c , d ) )"

// fourOf is a row of it whose key has that many bytes: 30 of numbers and ends, and one or two each byte of the texts.
func fourOf(n int) []api.Value {
	return list(zeros(64, 64), zeros(64, 64), zeros(64, 64), zeros(64, n-30-3*128-64), word("e"))
}

func TestRowsWithLongKeys(t *testing.T) {
	x := table(t, fours)
	for n := 478; n <= 542; n++ {
		row := fourOf(n)
		want := kv(slices.Concat(list(num(1), num(0)), row[:4]), row)
		if len(want.Key) != n {
			t.Fatalf("a key of %d bytes, not %d", len(want.Key), n)
		}
		fitsSo(t, x, row, api.OK)
		if n <= 512 {
			isRow(t, x, row, want)
			hasEntries(t, x, row)
			continue
		}
		isNoRow(t, x, row, api.ErrLong)
		hasNoEntries(t, x, row, api.ErrLong)
		unrowsNot(t, x, want, api.ErrBad)
		row[4] = null()
		isNoRow(t, x, row, api.ErrLong)
		row[0] = null()
		isNoRow(t, x, row, api.ErrNotNull)
		row[4] = num(1)
		isNoRow(t, x, row, api.ErrArg)
	}
}

// TestTheLongestValue has all twelve columns full of zeros; just the key is bounded.
func TestTheLongestValue(t *testing.T) {
	x := table(t, "create table t ( "+numbered(12, " text")+" , primary key ( a1 ) ) ; create index i on t ( a2 )")
	row := slices.Repeat(list(zeros(64, 64)), 12)
	isRow(t, x, row, kv(list(num(1), num(0), row[0]), row))
	hasEntries(t, x, row, kv(list(num(1), num(1), row[0], row[0]), nil))
}

// TestAKeyIsInTheKeysOrder, and stands behind its table's number.
func TestAKeyIsInTheKeysOrder(t *testing.T) {
	c := mustOf(t, tables(15)+"create table z ( a int , b text , c bool , primary key ( c , b , a ) )")
	row := list(num(-5), word("x\x00y"), no())
	isRow(t, c.Tables[15], row, kv(list(num(16), num(0), no(), word("x\x00y"), num(-5)), row))
	isRow(t, c.Tables[6], list(num(9)), kv(list(num(7), num(0), num(9)), list(num(9))))
}

// pairs is a table with indexes of all sorts.
const pairs = "create table t ( a int , b text , c bool , d int , primary key ( a , b ) ) ; create unique index i on t ( d ) ; create index j on t ( d ) ; create unique index k on t ( c , d ) ; create index l on t ( b , c ) ; create unique index m on t ( b , a , d ) ; create unique index n on t ( a ) ; create unique index o on t ( d , c , b )"

// entriesOf are those of a row of it: where columns of an index that is Unique have no Null, its key is the index' alone.
func entriesOf(a, b, c, d api.Value) []api.KV {
	key := list(a, b)
	of := func(index int64, unique bool, l ...api.Value) api.KV {
		head := slices.Concat(list(num(1), num(index)), l)
		if unique && !slices.Contains(l, null()) {
			return kv(head, key)
		}
		return kv(slices.Concat(head, key), nil)
	}
	return []api.KV{of(1, true, d), of(2, false, d), of(3, true, c, d), of(4, false, b, c), of(5, true, b, a, d), of(6, true, a), of(7, true, d, c, b)}
}

func TestEntries(t *testing.T) {
	x := table(t, pairs)
	a, b := num(7), word("x")
	for _, c := range list(null(), no(), yes()) {
		for _, d := range list(null(), num(0), num(-3)) {
			hasEntries(t, x, list(a, b, c, d), entriesOf(a, b, c, d)...)
		}
	}
	y, e := Entries(x, list(a, b, null(), num(5)))
	if e != api.OK || y[2].Value != "" || y[0].Value != told(a, b) || y[2].Key != told(num(1), num(3), null(), num(5), a, b) {
		t.Errorf("Entries: %q, %v", y, e)
	}
}

func TestEntriesOfATableWithoutIndexes(t *testing.T) {
	if l, e := Entries(table(t, tables(1)), list(num(1))); len(l) != 0 || e != api.OK {
		t.Errorf("Entries: %q, %v", l, e)
	}
}

// TestEntriesWithLongKeys: each of the sorts of entries at the edge, and the row's own key within it.
func TestEntriesWithLongKeys(t *testing.T) {
	const columns = "create table t ( k text , a text , b text , c text , d text , e int , primary key ( k ) ) ; "
	for n := 508; n <= 516; n++ {
		// 18 bytes are the numbers', 3 each text's beginning and end; with the key behind 33 more are its.
		long := slices.Repeat(list(zeros(64, 64)), 4)
		long[3] = zeros(64, n-30-3*128-64)
		withKey := slices.Clone(long)
		withKey[3] = zeros(50, n-63-3*128-50)
		k := word(strings.Repeat("k", 30))
		for _, c := range []struct {
			index string
			l     []api.Value
			want  api.KV
		}{
			{"create unique index i on t ( a , b , c , d )", long, kv(slices.Concat(list(num(1), num(1)), long), list(k))},
			{"create index i on t ( a , b , c , d )", withKey, kv(slices.Concat(list(num(1), num(1)), withKey, list(k)), nil)},
		} {
			x := table(t, columns+c.index)
			row := slices.Concat(list(k), c.l, list(null()))
			if len(c.want.Key) != n {
				t.Fatalf("a key of %d bytes, not %d", len(c.want.Key), n)
			}
			if n <= 512 {
				hasEntries(t, x, row, c.want)
			} else {
				hasNoEntries(t, x, row, api.ErrLong)
				pointsNot(t, x, 1, c.want, api.ErrBad)
			}
			isRow(t, x, row, kv(list(num(1), num(0), k), row))
		}
	}
}

// TestANullMakesAnEntrysKeyLonger: of an index that is Unique the row's key stands within it just then.
func TestANullMakesAnEntrysKeyLonger(t *testing.T) {
	x := table(t, "create table t ( a text , b text , c text , d text , e int , primary key ( a , b , c ) ) ; create index i on t ( e ) ; create unique index j on t ( e , d )")
	long := list(zeros(64, 64), zeros(64, 64), zeros(64, 60), zeros(64, 64), num(5))
	hasEntries(t, x, long, kv(list(num(1), num(1), num(5), long[0], long[1], long[2]), nil), kv(list(num(1), num(2), num(5), long[3]), long[:3]))
	long[4] = null()
	hasNoEntries(t, x, long, api.ErrLong) // 18, 1 and 131 of the index, 131, 131 and 127 of the key
	long[3] = null()
	hasEntries(t, x, long, kv(list(num(1), num(1), null(), long[0], long[1], long[2]), nil), kv(list(num(1), num(2), null(), null(), long[0], long[1], long[2]), nil))
}

// TestOneLongEntryOfMany is enough: there are none then.
func TestOneLongEntryOfMany(t *testing.T) {
	const columns = "create table t ( a text , b text , c text , d text , primary key ( a ) )"
	short, long := " ; create index %s on t ( b )", " ; create index %s on t ( b , c , d )"
	row := slices.Repeat(list(zeros(64, 64)), 4)
	for at := range 8 {
		text, fine := columns, columns
		for i := range 8 {
			name := "i" + string(rune('1'+i))
			one := short
			if i == at {
				one = long
			}
			text += strings.Replace(one, "%s", name, 1)
			fine += strings.Replace(short, "%s", name, 1)
		}
		hasNoEntries(t, table(t, text), row, api.ErrLong)
		if l, e := Entries(table(t, fine), row); len(l) != 8 || e != api.OK {
			t.Errorf("Entries: %q, %v", l, e)
		}
	}
}
