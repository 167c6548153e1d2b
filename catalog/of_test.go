package catalog

import (
	"math/bits"
	"strings"
	"testing"

	"stagepost/api"
)

// These are the tests of P15.1's Of.

func TestOfMakesTables(t *testing.T) {
	makes(t, "create table t ( a int , b text not null , c bool , primary key ( c , a ) ) ; CREATE TABLE U (x TEXT, PRIMARY KEY (x));",
		api.Table{Name: "t", Number: 1, Columns: []api.Column{{Name: "a", Kind: api.Int, NotNull: true}, {Name: "b", Kind: api.Text, NotNull: true}, {Name: "c", Kind: api.Bool, NotNull: true}}, Key: []int{2, 0}},
		api.Table{Name: "u", Number: 2, Columns: []api.Column{{Name: "x", Kind: api.Text, NotNull: true}}, Key: []int{0}})
}

func TestOfMakesIndexes(t *testing.T) {
	columns := []api.Column{{Name: "a", Kind: api.Int, NotNull: true}, {Name: "b", Kind: api.Int}, {Name: "c", Kind: api.Int}}
	text := "create table t ( a int , b int , c int , primary key ( a ) ) ; create index z on t ( c , a , b ) ;" +
		"create table u ( a int , b int , c int , primary key ( a ) ) ; create unique index y on u ( b ) ; create index x on t ( a ) ; create unique index w on t ( b , c )"
	makes(t, text,
		api.Table{Name: "t", Number: 1, Columns: columns, Key: []int{0}, Indexes: []api.Index{
			{Name: "z", Number: 1, Columns: []int{2, 0, 1}}, {Name: "x", Number: 2, Columns: []int{0}}, {Name: "w", Number: 3, Columns: []int{1, 2}, Unique: true}}},
		api.Table{Name: "u", Number: 2, Columns: columns, Key: []int{0}, Indexes: []api.Index{{Name: "y", Number: 1, Columns: []int{1}, Unique: true}}})
}

func TestOfNoStatementIsACatalogWithoutTables(t *testing.T) {
	for _, text := range []string{"", " ", "\n\t\r ", ";", " ; ;; "} {
		makes(t, text)
	}
}

// TestNotNullOfAKeysColumn is true, told or not; that of others is as told.
func TestNotNullOfAKeysColumn(t *testing.T) {
	for _, a := range []string{"", " not null"} {
		for _, b := range []string{"", " not null"} {
			for _, c := range []string{"", " not null"} {
				makes(t, "create table t ( a int"+a+" , b int"+b+" , c int"+c+" , primary key ( c , a ) )",
					api.Table{Name: "t", Number: 1, Key: []int{2, 0}, Columns: []api.Column{{Name: "a", Kind: api.Int, NotNull: true}, {Name: "b", Kind: api.Int, NotNull: b != ""}, {Name: "c", Kind: api.Int, NotNull: true}}})
			}
		}
	}
}

func TestAsManyAsMayBe(t *testing.T) {
	x := table(t, "create table t ( "+numbered(12, " text")+" , primary key ( a4 , a12 , a1 , a7 ) ) ; create index i on t ( a12 , a2 , a1 , a3 )")
	if len(x.Columns) != 12 || !equal(x.Key, []int{3, 11, 0, 6}) || !equal(x.Indexes[0].Columns, []int{11, 1, 0, 2}) {
		t.Errorf("%+v", x)
	}
	if c := mustOf(t, tables(16)); len(c.Tables) != 16 || c.Tables[15].Number != 16 || c.Tables[15].Name != "t16" {
		t.Errorf("%+v", c)
	}
	if c := mustOf(t, tables(2)+indexes(8, "t1", "i")+indexes(8, "t2", "j")); len(c.Tables[0].Indexes) != 8 || c.Tables[1].Indexes[7].Number != 8 || c.Tables[1].Indexes[7].Name != "j8" {
		t.Errorf("%+v", c)
	}
}

func TestTooManyTablesAndIndexes(t *testing.T) {
	faults(t, api.ErrLong, 16, tables(17))
	faults(t, api.ErrLong, 16, tables(16)+"create table u ( a int , primary key ( a ) )")
	faults(t, api.ErrLong, 9, tables(1)+indexes(9, "t1", "i"))
	faults(t, api.ErrLong, 17, tables(2)+indexes(8, "t2", "i")+indexes(7, "t1", "j")+"create unique index x on t2 ( a )")
	if c := mustOf(t, tables(2)+indexes(8, "t2", "i")+indexes(1, "t1", "j")); len(c.Tables[0].Indexes) != 1 {
		t.Errorf("an index of another table: %+v", c)
	}
}

// noCreate are statements of all other kinds.
func noCreate() []string {
	return []string{"select a from t", "insert into t values ( 1 )", "update t set a = 1", "delete from t", "begin", "commit", "rollback", "savepoint s", "rollback to s"}
}

func TestOfStatementsThatAreNoCreate(t *testing.T) {
	for _, s := range noCreate() {
		faults(t, api.ErrArg, 0, s)
		faults(t, api.ErrArg, 0, s+" ; "+example)
		faults(t, api.ErrArg, 3, example+s+" ; "+s)
		faults(t, api.ErrArg, 16, tables(16)+s)
	}
}

func TestTablesThatDoNotGo(t *testing.T) {
	faults(t, api.ErrThere, 3, example+"create table t ( x int , primary key ( x ) )")
	faults(t, api.ErrThere, 3, example+"create table T ( x int , primary key ( x ) )")
	faults(t, api.ErrThere, 2, tables(2)+"create table t1 ( x int , primary key ( x ) )")
	for _, columns := range []string{"a int , a int", "a int , A text", "a int , b int , a bool", "b int , a int , a int", "b int , a int , c int , d int , a int"} {
		faults(t, api.ErrThere, 0, "create table t ( "+columns+" , primary key ( a ) )")
	}
	for _, key := range []string{"x", "t", "x , a", "a , x", "a , b , c , x"} {
		faults(t, api.ErrMissing, 0, "create table t ( a int , b int , c int , primary key ( "+key+" ) )")
	}
	for _, key := range []string{"a , a", "a , b , a", "b , a , a", "a , b , c , b"} {
		faults(t, api.ErrThere, 0, "create table t ( a int , b int , c int , primary key ( "+key+" ) )")
	}
}

func TestIndexesThatDoNotGo(t *testing.T) {
	faults(t, api.ErrMissing, 3, example+"create index x on s ( a )")
	faults(t, api.ErrMissing, 3, example+"create index x on u ( c )") // u is an index
	faults(t, api.ErrMissing, 0, "create index x on t ( a ) ; "+example)
	faults(t, api.ErrThere, 3, example+"create index u on t ( a )")
	faults(t, api.ErrThere, 3, example+"create unique index I on t ( a )")
	faults(t, api.ErrThere, 5, tables(2)+indexes(2, "t1", "i")+indexes(1, "t2", "j")+"create index i2 on t2 ( a )")
	faults(t, api.ErrThere, 5, tables(2)+indexes(1, "t1", "i")+indexes(2, "t2", "j")+"create index j2 on t1 ( a )")
	for _, l := range []string{"x", "t", "x , a", "a , x", "a , b , c , x"} {
		faults(t, api.ErrMissing, 3, example+"create index x on t ( "+l+" )")
	}
	faults(t, api.ErrMissing, 2, "create table t ( a int , primary key ( a ) ) ; create table s ( b int , primary key ( b ) ) ; create index x on t ( b )")
	for _, l := range []string{"a , a", "a , b , a", "b , a , a", "a , b , c , b"} {
		faults(t, api.ErrThere, 3, example+"create unique index x on t ( "+l+" )")
	}
}

// TestNamesThatDoNotMeet: an index may have the name of a table or a column, a column that of a table, two tables' columns one.
func TestNamesThatDoNotMeet(t *testing.T) {
	makes(t, "create table t ( t int , primary key ( t ) ) ; create index t on t ( t ) ; create table a ( t int , primary key ( t ) ) ; create index a on t ( t )",
		api.Table{Name: "t", Number: 1, Columns: []api.Column{{Name: "t", Kind: api.Int, NotNull: true}}, Key: []int{0}, Indexes: []api.Index{{Name: "t", Number: 1, Columns: []int{0}}, {Name: "a", Number: 2, Columns: []int{0}}}},
		api.Table{Name: "a", Number: 2, Columns: []api.Column{{Name: "t", Kind: api.Int, NotNull: true}}, Key: []int{0}})
	mustOf(t, example+"create table i ( a int , primary key ( a ) )")
}

// first is the error of the first cause in the mask, or OK.
func first(l []api.Errno, mask int) api.Errno {
	if mask == 0 {
		return api.OK
	}
	return l[bits.TrailingZeros(uint(mask))]
}

// pick is yes, where the mask has that bit, no else.
func pick(mask, bit int, yes, no string) string {
	if mask>>bit&1 == 1 {
		return yes
	}
	return no
}

// TestTheOrderOfATablesErrors: all causes for which a CREATE TABLE does not go, alone, in pairs, and more of them together.
func TestTheOrderOfATablesErrors(t *testing.T) {
	causes := []api.Errno{api.ErrLong, api.ErrThere, api.ErrThere, api.ErrMissing, api.ErrThere}
	for mask := range 1 << len(causes) {
		ahead := 15 + mask&1
		columns := pick(mask, 2, "a int , b int , b text", "a int , b int , c text")
		key := "b" + pick(mask, 3, " , x", "") + pick(mask, 4, " , a , a", "")
		text := tables(ahead) + "create table " + pick(mask, 1, "t1", "u") + " ( " + columns + " , primary key ( " + key + " ) )"
		if _, f := Of(text); f.Err != first(causes, mask) || mask > 0 && f.At != ahead {
			t.Errorf("%05b: %v; want %v", mask, f, first(causes, mask))
		}
	}
}

// TestTheOrderOfAnIndexErrors: the same of a CREATE INDEX.
func TestTheOrderOfAnIndexErrors(t *testing.T) {
	causes := []api.Errno{api.ErrMissing, api.ErrLong, api.ErrThere, api.ErrMissing, api.ErrThere}
	for mask := range 1 << len(causes) {
		have := 7 + mask>>1&1
		columns := "a" + pick(mask, 4, " , a", "") + pick(mask, 3, " , x", "")
		text := tables(2) + indexes(have, "t2", "j") + "create index " + pick(mask, 2, "j1", "k") + " on " + pick(mask, 0, "u", "t2") + " ( " + columns + " )"
		if _, f := Of(text); f.Err != first(causes, mask) || mask > 0 && f.At != 2+have {
			t.Errorf("%05b: %v; want %v", mask, f, first(causes, mask))
		}
	}
}

// TestAStatementsNumber: those that are empty do not count, and the first that does not go is told.
func TestAStatementsNumber(t *testing.T) {
	faults(t, api.ErrArg, 0, ";; begin")
	faults(t, api.ErrThere, 1, ";;"+tables(1)+";;; "+tables(1)+"begin")
	faults(t, api.ErrArg, 1, tables(1)+"begin ; "+tables(1))
	faults(t, api.ErrMissing, 63, tables(16)+indexes(8, "t1", "i")+indexes(8, "t2", "j")+indexes(8, "t3", "k")+indexes(8, "t4", "l")+indexes(8, "t5", "m")+indexes(7, "t6", "n")+"create index x on t16 ( b )")
}

// TestAFaultOfTheTextIsAhead of statements that do not go, wherever it stands, at its place in the text.
func TestAFaultOfTheTextIsAhead(t *testing.T) {
	bad := "begin ; " + tables(1) + tables(1)
	for fault, want := range map[string]api.Fault{
		"create table t ( a int )":                  {Err: api.ErrSyntax, At: 23},
		"create index i on t":                       {Err: api.ErrSyntax, At: 19},
		"create unique table t":                     {Err: api.ErrSyntax, At: 14},
		"create table select":                       {Err: api.ErrSyntax, At: 13},
		"create table t ( a null )":                 {Err: api.ErrSyntax, At: 19},
		"create index i on t ( a , b , c , d , e )": {Err: api.ErrLong, At: 38},
		"#":                                 {Err: api.ErrToken, At: 0},
		"'":                                 {Err: api.ErrOpen, At: 0},
		"a!":                                {Err: api.ErrToken, At: 1},
		strings.Repeat("a", 33):             {Err: api.ErrLong, At: 0},
		"select " + strings.Repeat("(", 41): {Err: api.ErrDepth, At: 47},
	} {
		faults(t, want.Err, want.At, fault)
		faults(t, want.Err, want.At+len(bad), bad+fault)
		faults(t, want.Err, want.At+len(example), example+fault)
	}
	faults(t, api.ErrLong, -1, bad+strings.Repeat(" ", 65537-len(bad)))
	faults(t, api.ErrArg, 0, bad+strings.Repeat(" ", 65536-len(bad)))
	many := strings.Repeat("begin ;", 64)
	faults(t, api.ErrArg, 0, many)
	faults(t, api.ErrLong, len(many), many+"begin")
}
