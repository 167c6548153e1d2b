package catalog

import (
	"slices"
	"strings"
	"testing"

	"stagepost/api"
)

func TestExamplesOfTheChapter(t *testing.T) {
	x := table(t, example)
	if !slices.Equal(x.Key, []int{1, 0}) || !x.Columns[0].NotNull || x.Indexes[0].Number != 1 || x.Indexes[1].Number != 2 || len(x.Indexes) != 2 {
		t.Errorf("the table: %+v", x)
	}
	row := list(num(7), word("x"), yes())
	isRow(t, x, row, kv(list(num(1), num(0), word("x"), num(7)), list(num(7), word("x"), yes())))
	hasEntries(t, x, row,
		kv(list(num(1), num(1), yes()), list(word("x"), num(7))),
		kv(list(num(1), num(2), word("x"), word("x"), num(7)), nil))
	fitsSo(t, x, list(num(7), word("x")), api.ErrArg)
	fitsSo(t, x, list(num(7), word("x"), null()), api.ErrNotNull)
	fitsSo(t, x, list(word("x"), word("x"), yes()), api.ErrArg)
	faults(t, api.ErrArg, 0, "select a from t")
	faults(t, api.ErrMissing, 0, "create index i on s ( a )")
	faults(t, api.ErrThere, 1, "create table t ( a int , primary key ( a ) ) ; create table t ( a int , primary key ( a ) )")
}

// TestNumbersOfTheErrors: those that the chapter names.
func TestNumbersOfTheErrors(t *testing.T) {
	x := table(t, example)
	if e := Check(api.Catalog{Tables: make([]api.Table, 1)}); e != 2 {
		t.Errorf("ErrArg: %d", e)
	}
	if _, e := Row(table(t, "create table t ( a text , b text , c text , d text , primary key ( a , b , c , d ) )"), slices.Repeat(list(zeros(64, 64)), 4)); e != 3 {
		t.Errorf("ErrLong: %d", e)
	}
	if _, f := Of("create index i on t ( a )"); f.Err != 4 {
		t.Errorf("ErrMissing: %d", f.Err)
	}
	if _, e := Unrow(x, api.KV{}); e != 5 {
		t.Errorf("ErrBad: %d", e)
	}
	if _, f := Of(example + example); f.Err != 9 {
		t.Errorf("ErrThere: %d", f.Err)
	}
	if e := Fits(x, list(num(7), word("x"), null())); e != 250 {
		t.Errorf("ErrNotNull: %d", e)
	}
	for text, want := range map[string]api.Errno{"#": 230, "'": 231, "'\xff'": 232, "9223372036854775809": 233, "create t": 240, "select " + strings.Repeat("(", 41): 241} {
		if _, f := Of(text); f.Err != want {
			t.Errorf("Of of %q: %d, want %d", text, f.Err, want)
		}
	}
}

// TestLimits: those that the document names.
func TestLimits(t *testing.T) {
	if api.MaxCatalog != 16 || api.MaxIndexes != 8 || api.MaxKey != 512 {
		t.Error("a limit is another one")
	}
}
