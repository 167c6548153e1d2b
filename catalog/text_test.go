package catalog

import (
	"strings"
	"testing"

	"stagepost/api"
)

// These are the tests of P15.1's Text and Find.

// tells sees to it that Text of what the text makes is just want, and that this makes the same.
func tells(t *testing.T, text, want string) {
	t.Helper()
	c := mustOf(t, text)
	got, e := Text(c)
	if got != want || e != api.OK {
		t.Errorf("Text of Of of %q: %q, %v; want %q", short(text), got, e, want)
	}
	makes(t, got, c.Tables...)
}

func TestTextOfTheExample(t *testing.T) {
	tells(t, example, "create table t ( a int , b text , c bool not null , primary key ( b , a ) ) ;\ncreate unique index u on t ( c ) ;\ncreate index i on t ( b ) ;\n")
}

func TestTextOfNothing(t *testing.T) {
	tells(t, " ; ", "")
	if s, e := Text(api.Catalog{Tables: []api.Table{}}); s != "" || e != api.OK {
		t.Errorf("Text of an empty list of tables: %q, %v", s, e)
	}
}

// TestTextIsInOrder: table by table, each with its indexes behind it, whatever the order in which they were made.
func TestTextIsInOrder(t *testing.T) {
	tells(t, "create table z ( a int , primary key ( a ) ) ; create table y ( a int , b int , primary key ( a ) ) ; create index x on y ( b ) ; create unique index w on z ( a ) ; create index v on y ( b , a ) ; create index u on z ( a ) ; create table t ( c text , primary key ( c ) )",
		"create table z ( a int , primary key ( a ) ) ;\ncreate unique index w on z ( a ) ;\ncreate index u on z ( a ) ;\n"+
			"create table y ( a int , b int , primary key ( a ) ) ;\ncreate index x on y ( b ) ;\ncreate index v on y ( b , a ) ;\n"+
			"create table t ( c text , primary key ( c ) ) ;\n")
}

func TestTextLeavesOutNotNullOfAKeysColumnAlone(t *testing.T) {
	tells(t, "CREATE TABLE t (a INT NOT NULL, b INT NOT NULL, c BOOL, d TEXT NOT NULL, PRIMARY KEY (d, a)); ; ",
		"create table t ( a int , b int not null , c bool , d text , primary key ( d , a ) ) ;\n")
}

// TestTextOfTheLongest: 64 statements with all that they may have.
func TestTextOfTheLongest(t *testing.T) {
	name := strings.Repeat("x", 30)
	column := func(i int) string { return name + string(rune('a'+i)) + "_" }
	var columns []string
	for i := range 12 {
		columns = append(columns, column(i)+" text not null")
	}
	four := column(8) + " , " + column(9) + " , " + column(10) + " , " + column(11)
	var b strings.Builder
	for i := range 16 {
		on := name + string(rune('a'+i)) + "0"
		b.WriteString("create table " + on + " ( " + strings.Join(columns, " , ") + " , primary key ( " + four + " ) ) ;\n")
		for j := range 3 {
			b.WriteString("create unique index " + name + string(rune('a'+i)) + string(rune('1'+j)) + " on " + on + " ( " + four + " ) ;\n")
		}
	}
	want := b.String()
	for i := 8; i < 12; i++ {
		want = strings.ReplaceAll(want, column(i)+" text not null", column(i)+" text")
	}
	tells(t, b.String(), want)
}

func TestFind(t *testing.T) {
	c := mustOf(t, example+"create table u ( x text , primary key ( x ) ) ; create table v ( y int , primary key ( y ) )")
	for i, name := range []string{"t", "u", "v"} {
		if x, ok := Find(c, name); !ok || !equal(x, c.Tables[i]) {
			t.Errorf("Find of %q: %+v, %v", name, x, ok)
		}
	}
	for _, name := range []string{"", "T", "w", "i", "a", "t ", "tt"} {
		if x, ok := Find(c, name); ok || !equal(x, api.Table{}) {
			t.Errorf("Find of %q: %+v, %v", name, x, ok)
		}
	}
	if x, ok := Find(api.Catalog{}, ""); ok || !equal(x, api.Table{}) {
		t.Errorf("Find in no tables: %+v, %v", x, ok)
	}
}

// TestFindAsksNothingOfTheCatalog: of one that may not be it tells the first table, as it is.
func TestFindAsksNothingOfTheCatalog(t *testing.T) {
	c := api.Catalog{Tables: []api.Table{{Name: "", Number: 9}, {Name: "A b", Number: -1, Key: []int{7, 7}, Columns: []api.Column{{Kind: 9}}, Indexes: []api.Index{{Name: "", Columns: []int{-3}}, {}}}, {Name: "A b", Number: 2}}}
	if x, ok := Find(c, "A b"); !ok || !equal(x, c.Tables[1]) {
		t.Errorf("Find: %+v, %v", x, ok)
	}
	if x, ok := Find(c, ""); !ok || x.Number != 9 {
		t.Errorf("Find: %+v, %v", x, ok)
	}
}
