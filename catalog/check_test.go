package catalog

import (
	"math"
	"slices"
	"strconv"
	"strings"
	"testing"

	"stagepost/api"
)

// These are the tests of P15.1's Check and CheckTable, and of Text's ErrArg.

// two are the tables that are changed here: the second one has all that a table may have, and less than as much of it as it may.
const two = "create table s ( a int , primary key ( a ) ) ; create index h on s ( a ) ; create table t ( a int , b text , c bool not null , d int , primary key ( b , a ) ) ; create unique index u on t ( c , b ) ; create index i on t ( b )"

// column is one that may be.
func column(name string) api.Column { return api.Column{Name: name, Kind: api.Int} }

// badNames are texts that are no name.
func badNames() []string {
	return []string{"", " ", "T", "aB", "1", "1a", "a b", "a ", " a", "a;", "(a)", "t.a", "a,b", "a-", "-", "'a'", "é", "a\x00", "\xff", "select", "table", "key", "null", "true", "count", "count(*)", "not a", "a+b", strings.Repeat("x", 33), strings.Repeat("x", 70000)}
}

// tableChanges make of the table t one that may not be, each by another thing.
func tableChanges() map[string]func(*api.Table) {
	l := map[string]func(*api.Table){
		"no columns":               func(t *api.Table) { t.Columns = nil },
		"no columns, no key":       func(t *api.Table) { t.Columns, t.Key, t.Indexes = nil, nil, nil },
		"two columns of one name":  func(t *api.Table) { t.Columns[3].Name = "a" },
		"two neighbours":           func(t *api.Table) { t.Columns[1].Name = "a" },
		"no key":                   func(t *api.Table) { t.Key = nil },
		"a key below":              func(t *api.Table) { t.Key[1] = -1 },
		"a key above":              func(t *api.Table) { t.Key[0] = 4 },
		"a key far above":          func(t *api.Table) { t.Key[0] = math.MaxInt },
		"a key far below":          func(t *api.Table) { t.Key[0] = math.MinInt },
		"a key twice":              func(t *api.Table) { t.Key[0] = 0 },
		"a key twice, apart":       func(t *api.Table) { t.Key = []int{1, 0, 1} },
		"a key that may be Null":   func(t *api.Table) { t.Columns[0].NotNull = false },
		"the other key's":          func(t *api.Table) { t.Columns[1].NotNull = false },
		"a key of another column":  func(t *api.Table) { t.Key = []int{1, 3} },
		"an index' number":         func(t *api.Table) { t.Indexes[0].Number = 0 },
		"an index' number twice":   func(t *api.Table) { t.Indexes[1].Number = 1 },
		"an index' number above":   func(t *api.Table) { t.Indexes[1].Number = 3 },
		"an index' number below":   func(t *api.Table) { t.Indexes[0].Number = -1 },
		"indexes in another order": func(t *api.Table) { t.Indexes[0], t.Indexes[1] = t.Indexes[1], t.Indexes[0] },
		"two indexes of one name":  func(t *api.Table) { t.Indexes[1].Name = "u" },
		"an index of nothing":      func(t *api.Table) { t.Indexes[0].Columns = nil },
		"an index below":           func(t *api.Table) { t.Indexes[0].Columns[1] = -1 },
		"an index above":           func(t *api.Table) { t.Indexes[1].Columns[0] = 4 },
		"an index far above":       func(t *api.Table) { t.Indexes[1].Columns[0] = math.MaxInt },
		"an index twice":           func(t *api.Table) { t.Indexes[0].Columns[0] = 1 },
		"an index twice, apart":    func(t *api.Table) { t.Indexes[1].Columns = []int{0, 1, 0} },
		"13 columns": func(t *api.Table) {
			for _, name := range strings.Fields("e f g h i j k l m") {
				t.Columns = append(t.Columns, column(name))
			}
		},
		"5 columns of a key": func(t *api.Table) {
			t.Columns = []api.Column{column("a"), column("b"), column("c"), column("d"), column("e")}
			t.Key, t.Indexes = []int{0, 1, 2, 3, 4}, nil
			for i := range t.Columns {
				t.Columns[i].NotNull = true
			}
		},
		"5 columns of an index": func(t *api.Table) {
			t.Columns = append(t.Columns, column("e"))
			t.Indexes[1].Columns = []int{0, 1, 2, 3, 4}
		},
		"9 indexes": func(t *api.Table) {
			for i := 3; i <= 9; i++ {
				t.Indexes = append(t.Indexes, api.Index{Name: "x" + string(rune('0'+i)), Number: i, Columns: []int{0}})
			}
		},
	}
	for _, name := range badNames() {
		l["the table's name "+short(name)] = func(t *api.Table) { t.Name = name }
		l["a column's name "+short(name)] = func(t *api.Table) { t.Columns[3].Name = name }
		l["a key's name "+short(name)] = func(t *api.Table) { t.Columns[0].Name = name }
		l["an index' name "+short(name)] = func(t *api.Table) { t.Indexes[1].Name = name }
	}
	for _, kind := range []api.Kind{api.Null, api.Text + 1, 77, 255} {
		l["a column's kind "+strconv.Itoa(int(kind))] = func(t *api.Table) { t.Columns[3].Kind = kind }
		l["the first column's kind "+strconv.Itoa(int(kind))] = func(t *api.Table) { t.Columns[0].Kind = kind }
	}
	for _, n := range []int{0, -1, 17, math.MaxInt, math.MinInt} {
		l["the number "+strconv.Itoa(n)] = func(t *api.Table) { t.Number = n }
	}
	return l
}

// mayNot sees to it that the catalog may not be.
func mayNot(t *testing.T, what string, c api.Catalog) {
	t.Helper()
	if e := Check(c); e != api.ErrArg {
		t.Errorf("Check of %s: %v", what, e)
	}
	if s, e := Text(c); s != "" || e != api.ErrArg {
		t.Errorf("Text of %s: %q, %v", what, short(s), e)
	}
}

func TestTablesThatMayNotBe(t *testing.T) {
	for what, change := range tableChanges() {
		c := mustOf(t, two)
		if e := CheckTable(c.Tables[1]); e != api.OK || Check(c) != api.OK {
			t.Fatalf("CheckTable: %v", e)
		}
		change(&c.Tables[1])
		mayNot(t, what, c)
		if e := CheckTable(c.Tables[1]); e != api.ErrArg {
			t.Errorf("CheckTable of %s: %v", what, e)
		}
		slices.Reverse(c.Tables)
		mayNot(t, what, c)
		mayNot(t, what, api.Catalog{Tables: c.Tables[:1]})
	}
	if e := CheckTable(api.Table{}); e != api.ErrArg {
		t.Errorf("CheckTable of none: %v", e)
	}
}

// TestOthersAnswerFirstThatATableMayNotBe, whatever else they are handed.
func TestOthersAnswerFirstThatATableMayNotBe(t *testing.T) {
	good := mustOf(t, two).Tables[1]
	row := list(num(7), word("x"), yes(), null())
	y, _ := Row(good, row)
	l, _ := Entries(good, row)
	for what, change := range tableChanges() {
		x := copied(good)
		change(&x)
		for _, row := range [][]api.Value{row, nil, list(null(), null(), null(), null()), slices.Repeat(row, 4)} {
			if e := Fits(x, row); e != api.ErrArg {
				t.Errorf("%s: Fits: %v", what, e)
			}
			isNoRow(t, x, row, api.ErrArg)
			hasNoEntries(t, x, row, api.ErrArg)
		}
		unrowsNot(t, x, y, api.ErrArg)
		unrowsNot(t, x, api.KV{}, api.ErrArg)
		for i := range 3 {
			pointsNot(t, x, i, l[max(i-1, 0)], api.ErrArg)
			pointsNot(t, x, i, api.KV{}, api.ErrArg)
			beginsNot(t, x, i, nil)
			beginsNot(t, x, i, row[1:2])
		}
	}
}

// TestATableMayHaveEachNumber of those that tables have, and is as good alone.
func TestATableMayHaveEachNumber(t *testing.T) {
	x := mustOf(t, two).Tables[1]
	for n := -3; n < 20; n++ {
		x.Number = n
		want := api.OK
		if n < 1 || n > 16 {
			want = api.ErrArg
		}
		if e := CheckTable(x); e != want {
			t.Errorf("CheckTable of the number %d: %v", n, e)
		}
		if e := Check(api.Catalog{Tables: []api.Table{x}}); (e == api.OK) != (n == 1) {
			t.Errorf("Check of the number %d: %v", n, e)
		}
	}
}

func TestCatalogsThatMayNotBe(t *testing.T) {
	for what, change := range map[string]func(*api.Catalog){
		"two tables of one name":           func(c *api.Catalog) { c.Tables[1].Name = "s" },
		"an index in two tables":           func(c *api.Catalog) { c.Tables[1].Indexes[1].Name = "h" },
		"the first index in two tables":    func(c *api.Catalog) { c.Tables[1].Indexes[0].Name = "h" },
		"numbers in another order":         func(c *api.Catalog) { c.Tables[0].Number, c.Tables[1].Number = 2, 1 },
		"tables in another order":          func(c *api.Catalog) { slices.Reverse(c.Tables) },
		"a number twice":                   func(c *api.Catalog) { c.Tables[1].Number = 1 },
		"a number from 0 on":               func(c *api.Catalog) { c.Tables[0].Number, c.Tables[1].Number = 0, 1 },
		"a number too great":               func(c *api.Catalog) { c.Tables[1].Number = 3 },
		"no first table":                   func(c *api.Catalog) { c.Tables = c.Tables[1:] },
		"a table of nothing":               func(c *api.Catalog) { c.Tables = append(c.Tables, api.Table{}) },
		"a table of nothing with a number": func(c *api.Catalog) { c.Tables = append(c.Tables, api.Table{Name: "z", Number: 3}) },
	} {
		c := mustOf(t, two)
		change(&c)
		mayNot(t, what, c)
	}
	c := mustOf(t, tables(16))
	x := copied(c.Tables[0])
	x.Name, x.Number = "z", 17
	c.Tables = append(c.Tables, x)
	mayNot(t, "17 tables", c)
	mayNot(t, "many tables", api.Catalog{Tables: make([]api.Table, 1<<20)})
}

// TestOneNameOfTablesApart: of three, of indexes too, the first and the last may not have one name.
func TestOneNameOfTablesApart(t *testing.T) {
	c := mustOf(t, tables(3)+indexes(2, "t1", "i")+indexes(2, "t2", "j")+indexes(2, "t3", "k"))
	for i := range c.Tables {
		for j := range i {
			d := mustOf(t, tables(3))
			d.Tables[i].Name = d.Tables[j].Name
			mayNot(t, "two tables of one name", d)
			for k := range 4 {
				d := api.Catalog{Tables: []api.Table{copied(c.Tables[0]), copied(c.Tables[1]), copied(c.Tables[2])}}
				d.Tables[i].Indexes[k/2].Name = d.Tables[j].Indexes[k%2].Name
				mayNot(t, "two indexes of one name", d)
			}
		}
	}
}

// TestTheGreatestCatalog: a text has at most 64 statements, so that no text makes more tables and indexes.
func TestTheGreatestCatalog(t *testing.T) {
	text := tables(16) + indexes(8, "t1", "i") + indexes(8, "t2", "j") + indexes(8, "t3", "k") + indexes(8, "t4", "l") + indexes(8, "t9", "m") + indexes(8, "t16", "n")
	c := mustOf(t, text)
	if s, e := Text(c); s == "" || e != api.OK || Check(c) != api.OK {
		t.Errorf("of 64 statements: %v", e)
	}
	faults(t, api.ErrLong, len(text), text+"create index z on t15 ( a )")
	c.Tables[14].Indexes = []api.Index{{Name: "z", Number: 1, Columns: []int{0}}}
	mayNot(t, "65 statements", c)
	if e := CheckTable(c.Tables[14]); e != api.OK {
		t.Errorf("CheckTable: %v", e)
	}
	c.Tables[15].Indexes = c.Tables[15].Indexes[:7]
	if e := Check(c); e != api.OK {
		t.Errorf("of 64 statements again: %v", e)
	}
}

func TestEmptyListsAreAsGoodAsNone(t *testing.T) {
	c := mustOf(t, tables(1))
	c.Tables[0].Indexes = []api.Index{}
	if e := Check(c); e != api.OK || CheckTable(c.Tables[0]) != api.OK {
		t.Errorf("no indexes: %v", e)
	}
	if e := Check(api.Catalog{Tables: []api.Table{}}); e != api.OK {
		t.Errorf("no tables: %v", e)
	}
	if e := Check(api.Catalog{}); e != api.OK {
		t.Errorf("no tables: %v", e)
	}
}

// TestGoodNames: the edges of what a name may be.
func TestGoodNames(t *testing.T) {
	for _, name := range []string{"a", "_", "_1", "z9", "selected", "keys", strings.Repeat("x", 32), "t", "int2"} {
		c := mustOf(t, two)
		x := &c.Tables[1]
		x.Name, x.Columns[0].Name, x.Indexes[1].Name = name, name, name
		if e := Check(c); e != api.OK || CheckTable(*x) != api.OK {
			t.Errorf("Check with the name %q: %v", name, e)
		}
		s, e := Text(c)
		if e != api.OK {
			t.Errorf("Text with the name %q: %v", name, e)
		}
		makes(t, s, c.Tables...)
	}
}
