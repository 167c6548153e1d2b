package catalog

import (
	"cmp"
	"slices"
	"strings"
	"testing"

	"stagepost/api"
	"stagepost/enc"
)

// These are the tests of P15.4, and the fuzz tests.

func TestOfMakesWhatTextTold(t *testing.T) {
	m := newMaker(4)
	for range 200 {
		c := mustOf(t, m.going(m.Intn(40)))
		s, e := Text(c)
		again, f := Of(s)
		if e != api.OK || f != (api.Fault{}) || !equal(again, c) {
			t.Errorf("Of of Text of %+v: %+v, %v, %v", c, again, e, f)
		}
		if twice, e := Text(again); twice != s || e != api.OK {
			t.Errorf("Text of Of of Text of %+v: %q, %v; want %q", c, twice, e, s)
		}
	}
}

// rowsThatFit are n rows of a table, all of which have a key and entries.
func (m *maker) rowsThatFit(t api.Table, n int) [][]api.Value {
	var l [][]api.Value
	for len(l) < n {
		row := m.row(t)
		if _, e := Entries(t, row); e == api.OK {
			l = append(l, row)
		}
	}
	return l
}

// TestKeysAreInTheOrderOfTheirValues: those of the key, in its order.
func TestKeysAreInTheOrderOfTheirValues(t *testing.T) {
	m := newMaker(5)
	for range 100 {
		for _, x := range mustOf(t, m.going(12)).Tables {
			l := m.rowsThatFit(x, 12)
			for _, one := range l {
				for _, two := range l {
					a, _ := Row(x, one)
					b, _ := Row(x, two)
					if cmp.Compare(a.Key, b.Key) != enc.Compare(at(one, x.Key), at(two, x.Key)) {
						t.Errorf("of %+v: the keys of %v and %v are %q and %q", x, one, two, a.Key, b.Key)
					}
				}
			}
		}
	}
}

// at are the values at these places.
func at(row []api.Value, places []int) []api.Value {
	l := make([]api.Value, len(places))
	for i, place := range places {
		l[i] = row[place]
	}
	return l
}

// span is one Begins without values.
type span struct {
	table, index int
	of           api.Span
}

// TestKeysNeverMeet: each key lies in the Begins of its table and index, and in no other one, of as many as there may be.
func TestKeysNeverMeet(t *testing.T) {
	m := newMaker(6)
	texts := []string{tables(16) + indexes(8, "t1", "i") + indexes(8, "t2", "j") + indexes(8, "t15", "k") + indexes(8, "t16", "l")}
	for range 40 {
		texts = append(texts, m.going(40))
	}
	for _, text := range texts {
		c := mustOf(t, text)
		var spans []span
		for _, x := range c.Tables {
			for index := range len(x.Indexes) + 1 {
				of, e := Begins(x, index, nil)
				if e != api.OK {
					t.Fatalf("Begins of %d: %v", index, e)
				}
				spans = append(spans, span{x.Number, index, of})
			}
		}
		for _, x := range c.Tables {
			for _, row := range m.rowsThatFit(x, 5) {
				y, _ := Row(x, row)
				l, _ := Entries(x, row)
				for index, y := range append([]api.KV{y}, l...) {
					liesInOne(t, spans, x.Number, index, y.Key)
				}
			}
		}
	}
}

func liesInOne(t *testing.T, spans []span, table, index int, key string) {
	t.Helper()
	for _, s := range spans {
		if enc.In(key, s.of) != (s.table == table && s.index == index) {
			t.Errorf("the key %q of %d, %d, and the span of %d, %d", key, table, index, s.table, s.index)
		}
	}
}

// TestKeysLieInTheBeginsOfTheirValues: of the first ones of a key or an index, and in that of no others.
func TestKeysLieInTheBeginsOfTheirValues(t *testing.T) {
	m := newMaker(8)
	for range 60 {
		for _, x := range mustOf(t, m.going(12)).Tables {
			rows := m.rowsThatFit(x, 6)
			for _, row := range rows {
				y, _ := Row(x, row)
				l, _ := Entries(x, row)
				for index, y := range append([]api.KV{y}, l...) {
					places := x.Key
					if index > 0 {
						places = x.Indexes[index-1].Columns
					}
					for _, other := range rows {
						for n := range len(places) + 1 {
							of, e := Begins(x, index, at(other, places[:n]))
							if e != api.OK || enc.In(y.Key, of) != slices.Equal(at(other, places[:n]), at(row, places[:n])) {
								t.Errorf("Begins of %d, %v, and the key of %v: %q, %v", index, at(other, places[:n]), row, of, e)
							}
						}
					}
				}
			}
		}
	}
}

func TestUnrowAndPointsGiveBack(t *testing.T) {
	m := newMaker(9)
	for range 100 {
		for _, x := range mustOf(t, m.going(20)).Tables {
			for _, row := range m.rowsThatFit(x, 10) {
				y, _ := Row(x, row)
				unrows(t, x, y, row)
				l, _ := Entries(x, row)
				for i := range l {
					points(t, x, i+1, l[i], y.Key)
				}
			}
		}
	}
}

// TestPointsOfAllThatSmallRowsHave goes through all rows of few values, and all that could be entries of such.
func TestPointsOfAllThatSmallRowsHave(t *testing.T) {
	x := table(t, "create table t ( a int , b int , c bool not null , primary key ( b , a ) ) ; create unique index i on t ( c , a ) ; create index j on t ( b , c ) ; create unique index k on t ( c )")
	y := table(t, "create table t ( a int , b int , c bool , primary key ( a ) ) ; create unique index i on t ( b , c ) ; create index j on t ( c , a ) ; create unique index k on t ( b , a )")
	values := list(null(), num(0), num(1), yes(), word("x"))
	for _, x := range []api.Table{x, y} {
		known := map[int]map[api.KV]string{1: {}, 2: {}, 3: {}}
		for _, row := range lists(3, values) {
			l, e := Entries(x, row)
			at, _ := Row(x, row)
			for i := range l {
				known[i+1][l[i]] = at.Key
			}
			if (e == api.OK) != (len(l) > 0) {
				t.Errorf("Entries of %v: %q, %v", row, l, e)
			}
		}
		for index := 1; index <= 3; index++ {
			for n := range 5 {
				for _, l := range lists(n, values) {
					for cut := range n + 1 {
						y := kv(slices.Concat(list(num(1), num(int64(index))), l[:cut]), l[cut:])
						want, ok := known[index][y]
						if got, e := Points(x, index, y); got != want || (e == api.OK) != ok || !ok && e != api.ErrBad {
							t.Errorf("Points of %d, %v and %v: %q, %v; want %q", index, l[:cut], l[cut:], got, e, want)
						}
					}
				}
			}
		}
	}
}

// lists are all lists of n of these values.
func lists(n int, values []api.Value) [][]api.Value {
	if n == 0 {
		return [][]api.Value{nil}
	}
	var out [][]api.Value
	for _, l := range lists(n-1, values) {
		for _, v := range values {
			out = append(out, append(slices.Clone(l), v))
		}
	}
	return out
}

func FuzzOf(f *testing.F) {
	for _, s := range []string{example, two, pairs, plain, fours, "", ";", "begin", tables(3), tables(17), tables(1) + indexes(9, "t1", "i"), "create table t ( a int , a int , primary key ( x ) )", "create index i on t ( a"} {
		f.Add(s)
	}
	f.Fuzz(func(t *testing.T, s string) {
		agrees(t, s)
	})
}

// fuzzed are the tables that are fuzzed.
func fuzzed(t *testing.T) []api.Table {
	return []api.Table{table(t, example), table(t, pairs), table(t, plain), table(t, fours+"; create index i on t ( e ) ; create unique index j on t ( e , a )"), mustOf(t, two).Tables[1]}
}

// FuzzKVs is of Unrow and Points of any bytes.
func FuzzKVs(f *testing.F) {
	for i, row := range [][]api.Value{list(num(7), word("x"), yes()), list(num(1), word("x"), null(), num(5)), plainRow(), fourOf(500), list(num(7), word("x"), yes(), null())} {
		t := []string{example, pairs, plain, fours, "create table t ( a int , b text , c bool , d int , primary key ( a ) ) ; create index i on t ( a )"}[i]
		x := mustOf(f, t).Tables[0]
		y, _ := Row(x, row)
		l, _ := Entries(x, row)
		for _, y := range append(l, y) {
			f.Add(uint8(i), y.Key, y.Value)
			f.Add(uint8(i), y.Key+y.Value, "")
			f.Add(uint8(i+1), y.Value, y.Key)
		}
	}
	f.Fuzz(func(t *testing.T, which uint8, key, value string) {
		all := fuzzed(t)
		x, y := all[int(which)%len(all)], api.KV{Key: key, Value: value}
		kvAgrees(t, x, y)
		if row, e := Unrow(x, y); e == api.OK {
			isRow(t, x, row, y)
		}
	})
}

// FuzzNames is of tables with any name, in each of its places.
func FuzzNames(f *testing.F) {
	for _, name := range append(badNames(), "a", "x", "_1", "selects") {
		if len(name) < 100 {
			f.Add(name)
		}
	}
	f.Fuzz(func(t *testing.T, name string) {
		for place := range 4 {
			c := mustOf(t, two)
			x := &c.Tables[1]
			*[]*string{&x.Name, &x.Columns[0].Name, &x.Columns[3].Name, &x.Indexes[0].Name}[place] = name
			want, ok := modelText(c)
			if got, e := Text(c); got != want || (e == api.OK) != ok || Check(c) != e {
				t.Errorf("Text with the name %q: %q, %v; want %q", name, got, e, want)
			}
			if (CheckTable(*x) == api.OK) != modelTable(*x) {
				t.Errorf("CheckTable with the name %q", name)
			}
			if strings.ContainsAny(name, " ;") && ok {
				t.Errorf("the name %q may be", name)
			}
		}
	})
}
