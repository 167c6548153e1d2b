package catalog

import (
	"math/rand"
	"slices"
	"strconv"
	"strings"
	"testing"

	"stagepost/api"
	"stagepost/enc"
	"stagepost/parser"
)

// This is a model of the chapter: of each statement all causes are gathered, and the first is told; a catalog may be, if its text, written here, makes it; rows are laid by the words, and entries are taken apart by hand.

// modelOf is Of.
func modelOf(text string) (api.Catalog, api.Fault) {
	l, f := parser.Script(text)
	if f != (api.Fault{}) {
		return api.Catalog{}, f
	}
	var c api.Catalog
	for i, s := range l {
		for _, e := range modelCauses(c, s) {
			if e != api.OK {
				return api.Catalog{}, api.Fault{Err: e, At: i}
			}
		}
		modelDo(&c, s)
	}
	return c, api.Fault{}
}

// modelCauses are all causes for which the statement might not go, in order, OK where it does.
func modelCauses(c api.Catalog, s api.Stmt) []api.Errno {
	when := func(bad bool, e api.Errno) api.Errno {
		if bad {
			return e
		}
		return api.OK
	}
	names, on, indexes := map[string]int{}, -1, map[string]int{}
	for i, t := range c.Tables {
		names[t.Name]++
		if t.Name == s.Table {
			on = i
		}
		for _, x := range t.Indexes {
			indexes[x.Name]++
		}
	}
	columns := map[string]int{}
	if s.Kind == api.CreateTable {
		for _, column := range s.Columns {
			columns[column.Name]++
		}
		return []api.Errno{when(len(c.Tables) == 16, api.ErrLong), when(names[s.Name] > 0 || len(columns) < len(s.Columns), api.ErrThere), when(unknown(columns, s.Key), api.ErrMissing), when(doubled(s.Key), api.ErrThere)}
	}
	if s.Kind != api.CreateIndex {
		return []api.Errno{api.ErrArg}
	}
	if on < 0 {
		return []api.Errno{api.ErrMissing}
	}
	for _, column := range c.Tables[on].Columns {
		columns[column.Name]++
	}
	return []api.Errno{when(len(c.Tables[on].Indexes) == 8, api.ErrLong), when(indexes[s.Name] > 0, api.ErrThere), when(unknown(columns, s.Names), api.ErrMissing), when(doubled(s.Names), api.ErrThere)}
}

func unknown(columns map[string]int, l []string) bool {
	return slices.ContainsFunc(l, func(name string) bool { return columns[name] == 0 })
}

func doubled(l []string) bool {
	m := map[string]int{}
	for _, name := range l {
		m[name]++
	}
	return len(m) < len(l)
}

// modelDo does a statement that goes.
func modelDo(c *api.Catalog, s api.Stmt) {
	var t *api.Table
	names := s.Key
	if s.Kind == api.CreateTable {
		c.Tables = append(c.Tables, api.Table{Name: s.Name, Number: len(c.Tables) + 1, Columns: slices.Clone(s.Columns)})
		t = &c.Tables[len(c.Tables)-1]
	} else {
		t = &c.Tables[slices.IndexFunc(c.Tables, func(t api.Table) bool { return t.Name == s.Table })]
		names = s.Names
	}
	var at []int
	for _, name := range names {
		at = append(at, slices.IndexFunc(t.Columns, func(column api.Column) bool { return column.Name == name }))
	}
	if s.Kind == api.CreateIndex {
		t.Indexes = append(t.Indexes, api.Index{Name: s.Name, Number: len(t.Indexes) + 1, Columns: at, Unique: s.Unique})
		return
	}
	t.Key = at
	for _, i := range at {
		t.Columns[i].NotNull = true
	}
}

// written is the text of tables, written by hand; none of such as no text has.
func written(l []api.Table) (string, bool) {
	var b strings.Builder
	ok := true
	names := func(t api.Table, places []int) string {
		var l []string
		for _, place := range places {
			if place < 0 || place >= len(t.Columns) {
				ok = false
				return ""
			}
			l = append(l, t.Columns[place].Name)
		}
		return strings.Join(l, " , ")
	}
	for _, t := range l {
		b.WriteString("create table " + t.Name + " ( ")
		for i, column := range t.Columns {
			b.WriteString(column.Name + map[api.Kind]string{api.Int: " int", api.Text: " text", api.Bool: " bool"}[column.Kind])
			if column.NotNull && !slices.Contains(t.Key, i) {
				b.WriteString(" not null")
			}
			b.WriteString(" , ")
		}
		b.WriteString("primary key ( " + names(t, t.Key) + " ) ) ;\n")
		for _, x := range t.Indexes {
			b.WriteString("create " + map[bool]string{true: "unique ", false: ""}[x.Unique] + "index " + x.Name + " on " + t.Name + " ( " + names(t, x.Columns) + " ) ;\n")
		}
	}
	return b.String(), ok
}

// modelText is Text: ok says whether the catalog may be.
func modelText(c api.Catalog) (string, bool) {
	s, ok := written(c.Tables)
	made, f := modelOf(s)
	if !ok || f != (api.Fault{}) || !equal(made, c) {
		return "", false
	}
	return s, true
}

// modelTable says whether a table may be: behind others, as many as its number asks for.
func modelTable(t api.Table) bool {
	if t.Number < 1 || t.Number > 16 {
		return false
	}
	var l []api.Table
	for i := 1; i < t.Number; i++ {
		name := "other" + strconv.Itoa(i)
		if name == t.Name {
			name = "another"
		}
		l = append(l, api.Table{Name: name, Number: i, Columns: []api.Column{{Name: "a", Kind: api.Int, NotNull: true}}, Key: []int{0}})
	}
	_, ok := modelText(api.Catalog{Tables: append(l, t)})
	return ok
}

// modelFits, modelRow, modelEntries are of tables that may be.
func modelFits(t api.Table, row []api.Value) api.Errno {
	e := api.OK
	for i, v := range row {
		switch {
		case len(row) != len(t.Columns), enc.Check(v) != api.OK, v.Kind != api.Null && v.Kind != t.Columns[i].Kind:
			return api.ErrArg
		case v.Kind == api.Null && t.Columns[i].NotNull:
			e = api.ErrNotNull
		}
	}
	if len(row) == 0 {
		return api.ErrArg
	}
	return e
}

func modelRow(t api.Table, row []api.Value) (api.KV, api.Errno) {
	if e := modelFits(t, row); e != api.OK {
		return api.KV{}, e
	}
	key := told(num(int64(t.Number)), num(0))
	for _, i := range t.Key {
		key += told(row[i])
	}
	if len(key) > 512 {
		return api.KV{}, api.ErrLong
	}
	return api.KV{Key: key, Value: told(row...)}, api.OK
}

func modelEntries(t api.Table, row []api.Value) ([]api.KV, api.Errno) {
	if _, e := modelRow(t, row); e != api.OK {
		return nil, e
	}
	var l []api.KV
	behind := ""
	for _, i := range t.Key {
		behind += told(row[i])
	}
	for _, x := range t.Indexes {
		y := api.KV{Key: told(num(int64(t.Number)), num(int64(x.Number))), Value: behind}
		unique := x.Unique
		for _, i := range x.Columns {
			y.Key += told(row[i])
			unique = unique && row[i] != null()
		}
		if !unique {
			y = api.KV{Key: y.Key + behind}
		}
		if len(y.Key) > 512 {
			return nil, api.ErrLong
		}
		l = append(l, y)
	}
	return l, api.OK
}

// modelUnrow reads the value, and holds its row's key against what is there.
func modelUnrow(t api.Table, y api.KV) ([]api.Value, api.Errno) {
	row, e := enc.Values(y.Value)
	if e != api.OK || modelFits(t, row) != api.OK {
		return nil, api.ErrBad
	}
	l := list(num(int64(t.Number)), num(0))
	for _, i := range t.Key {
		l = append(l, row[i])
	}
	if told(l...) != y.Key || len(y.Key) > 512 {
		return nil, api.ErrBad
	}
	return row, api.OK
}

// modelPoints takes an entry apart, value by value.
func modelPoints(t api.Table, index int, y api.KV) (string, api.Errno) {
	if index < 1 || index > len(t.Indexes) {
		return "", api.ErrArg
	}
	x := t.Indexes[index-1]
	n := 2 + len(x.Columns)
	l, e := enc.Values(y.Key)
	key, bad := enc.Values(y.Value)
	if e != api.OK || bad != api.OK || len(y.Key) > 512 || len(l) < n || l[0] != num(int64(t.Number)) || l[1] != num(int64(index)) {
		return "", api.ErrBad
	}
	if !x.Unique || slices.Contains(l[2:n], null()) {
		if y.Value != "" {
			return "", api.ErrBad
		}
		key, l = l[n:], l[:n]
	}
	said := map[int]api.Value{}
	for i, v := range l[2:] {
		said[x.Columns[min(i, n-3)]] = v
	}
	if len(l) != n || len(key) != len(t.Key) {
		return "", api.ErrBad
	}
	for i, v := range key {
		if w, ok := said[t.Key[i]]; ok && w != v {
			return "", api.ErrBad
		}
		said[t.Key[i]] = v
	}
	for i, v := range said {
		if v.Kind != t.Columns[i].Kind && (v != null() || t.Columns[i].NotNull) {
			return "", api.ErrBad
		}
	}
	at := told(slices.Concat(list(num(int64(t.Number)), num(0)), key)...)
	if len(at) > 512 {
		return "", api.ErrBad
	}
	return at, api.OK
}

// modelBegins is of tables that may be.
func modelBegins(t api.Table, index int, l []api.Value) (api.Span, api.Errno) {
	most := map[int]int{0: len(t.Key)}
	for _, x := range t.Indexes {
		most[x.Number] = len(x.Columns)
	}
	n, ok := most[index]
	if !ok || len(l) > n || slices.ContainsFunc(l, func(v api.Value) bool { return enc.Check(v) != api.OK }) {
		return api.Span{}, api.ErrArg
	}
	s := told(num(int64(t.Number)), num(int64(index))) + told(l...)
	return api.Span{From: s, To: above(s)}, api.OK
}

// maker makes things by chance.
type maker struct{ *rand.Rand }

func newMaker(seed int64) *maker { return &maker{rand.New(rand.NewSource(seed))} }

func (m *maker) one(l string) string {
	all := strings.Fields(l)
	return all[m.Intn(len(all))]
}

// some are names out of l, up to most, seldom one twice.
func (m *maker) some(l string, most int) []string {
	var out []string
	for range 1 + m.Intn(most) {
		name := m.one(l)
		if !slices.Contains(out, name) || m.Intn(12) == 0 {
			out = append(out, name)
		}
	}
	return out
}

const columnNames = "a b c d e f"

// create is a statement that goes, or one that nearly does.
func (m *maker) create(tables, indexes string) string {
	switch m.Intn(40) {
	case 0:
		return "delete from t"
	case 1:
		return ""
	}
	if m.Intn(3) > 0 {
		unique := ""
		if m.Intn(2) == 0 {
			unique = "UNIQUE "
		}
		return "CREATE " + unique + "INDEX " + m.one(indexes) + " ON " + m.one(tables) + " (" + strings.Join(m.some(columnNames, 4), ",") + ")"
	}
	columns := strings.Fields(columnNames)
	if m.Intn(4) == 0 {
		columns = m.some(columnNames, 12)
	}
	var l []string
	for _, name := range columns {
		define := name + " " + m.one("int text text text bool")
		if m.Intn(3) == 0 {
			define += " not null"
		}
		l = append(l, define)
	}
	return "create table " + m.one(tables) + " (" + strings.Join(append(l, "primary key ("+strings.Join(m.some(columnNames, 4), ",")+")"), ", ") + ")"
}

// script is some of them, one behind the other.
func (m *maker) script(n int, tables, indexes string) string {
	var l []string
	for range n {
		l = append(l, m.create(tables, indexes))
	}
	return strings.Join(l, ";")
}

// going is a text of statements all of which go.
func (m *maker) going(n int) string {
	text := ""
	for range n {
		more := text + m.create("t u v w", "i j k l m n o p") + " ; "
		if _, f := modelOf(more); f == (api.Fault{}) {
			text = more
		}
	}
	return text
}

// value is one of those that lie at edges, of that kind for the most part.
func (m *maker) value(k api.Kind, long bool) api.Value {
	if k == api.Text && long {
		n := 58 + m.Intn(7)
		return zeros(n, m.Intn(n+1))
	}
	if m.Intn(30) == 0 {
		return wrong()[m.Intn(len(wrong()))]
	}
	if m.Intn(20) == 0 {
		k = api.Kind(m.Intn(4))
	}
	switch {
	case k == api.Bool:
		return api.Value{Kind: api.Bool, Int: int64(m.Intn(2))}
	case k == api.Int:
		return []api.Value{num(0), num(1), num(-1), num(255), num(-1 << 63), num(1<<63 - 1), num(m.Int63())}[m.Intn(7)]
	case k == api.Text:
		return word([]string{"", "x", "y", "\x00", "\x00\xff", "\xff", "x\x00\x01"}[m.Intn(7)])
	}
	return null()
}

// row is a row of the table, or nearly one.
func (m *maker) row(t api.Table) []api.Value {
	var row []api.Value
	long := m.Intn(3) == 0
	for _, column := range t.Columns {
		if m.Intn(6) == 0 && (!column.NotNull || m.Intn(9) == 0) {
			row = append(row, null())
			continue
		}
		row = append(row, m.value(column.Kind, long))
	}
	switch m.Intn(60) {
	case 0:
		return row[1:]
	case 1:
		return append(row, num(1))
	}
	return row
}

// bent is nearly y.
func (m *maker) bent(y api.KV) api.KV {
	of := func(s string) string {
		if s == "" || m.Intn(2) == 0 {
			return s
		}
		i := m.Intn(len(s))
		switch m.Intn(4) {
		case 0:
			return s[:i]
		case 1:
			return s[:i] + s[i+1:]
		case 2:
			return s[:i] + string([]byte{byte(m.Intn(5))}) + s[i+1:]
		}
		return s[:i] + string([]byte{byte(m.Intn(256))}) + s[i:]
	}
	return api.KV{Key: of(y.Key), Value: of(y.Value)}
}

func TestOfAgainstTheModel(t *testing.T) {
	m := newMaker(1)
	went := 0
	for range 12000 {
		text := m.script(m.Intn(12), "t u v", "i j k l m")
		agrees(t, text)
		if _, f := Of(text); f == (api.Fault{}) {
			went++
		}
	}
	for range 300 {
		text := m.going(70)
		agrees(t, text+m.create("t u v w", "i j"))
	}
	if went < 300 {
		t.Errorf("just %d texts went", went)
	}
}

// agrees sees to it that Of answers as the model, and that all follows.
func agrees(t *testing.T, text string) {
	t.Helper()
	want, wantFault := modelOf(text)
	c, f := Of(text)
	if f != wantFault || !equal(c, want) {
		t.Errorf("Of of %q: %+v, %v; want %+v, %v", text, c, f, want, wantFault)
		return
	}
	if f != (api.Fault{}) {
		return
	}
	s, _ := written(c.Tables)
	if got, e := Text(c); got != s || e != api.OK || Check(c) != api.OK {
		t.Errorf("Text of Of of %q: %q, %v; want %q", text, got, e, s)
	}
	if again, f := Of(s); f != (api.Fault{}) || !equal(again, c) {
		t.Errorf("Of of Text of Of of %q: %+v, %v", text, again, f)
	}
	for i, x := range c.Tables {
		if e := CheckTable(x); e != api.OK {
			t.Errorf("CheckTable of %q: %v", x.Name, e)
		}
		if found, ok := Find(c, x.Name); !ok || !equal(found, c.Tables[i]) {
			t.Errorf("Find of %q: %+v", x.Name, found)
		}
	}
}

// change changes one thing in the catalog by chance.
func (m *maker) change(c *api.Catalog) {
	if len(c.Tables) == 0 {
		return
	}
	t := &c.Tables[m.Intn(len(c.Tables))]
	numbers := []int{-1, 0, 1, 2, 3, 4, 5, 6, 12, 16, 17}
	n := numbers[m.Intn(len(numbers))]
	name := m.one("a b c t u v i j A select 1 x")
	switch m.Intn(14) {
	case 0:
		t.Number = n
	case 1:
		t.Name = name
	case 2:
		t.Columns[m.Intn(len(t.Columns))].Name = name
	case 3:
		t.Columns[m.Intn(len(t.Columns))].Kind = api.Kind(m.Intn(5))
	case 4:
		column := &t.Columns[m.Intn(len(t.Columns))]
		column.NotNull = !column.NotNull
	case 5:
		t.Columns = t.Columns[:1+m.Intn(len(t.Columns))]
	case 6:
		t.Columns = append(t.Columns, api.Column{Name: name, Kind: api.Kind(m.Intn(5)), NotNull: m.Intn(2) == 0})
	case 7:
		t.Key = append(t.Key, n)
	case 8:
		t.Key = t.Key[:m.Intn(len(t.Key)+1)]
	case 9:
		if len(t.Key) > 0 {
			t.Key[m.Intn(len(t.Key))] = n
		}
	case 10:
		c.Tables = c.Tables[:m.Intn(len(c.Tables))]
	case 11:
		c.Tables = append(c.Tables, copied(*t))
	default:
		m.changeIndexes(t, n, name)
	}
}

func (m *maker) changeIndexes(t *api.Table, n int, name string) {
	if len(t.Indexes) == 0 {
		t.Indexes = append(t.Indexes, api.Index{Name: name, Number: n, Columns: []int{n}})
		return
	}
	x := &t.Indexes[m.Intn(len(t.Indexes))]
	switch m.Intn(7) {
	case 0:
		x.Name = name
	case 1:
		x.Number = n
	case 2:
		x.Columns = append(x.Columns, n)
	case 3:
		x.Columns = x.Columns[:m.Intn(len(x.Columns)+1)]
	case 4:
		x.Unique = !x.Unique
	case 5:
		t.Indexes = append(t.Indexes, api.Index{Name: name, Number: len(t.Indexes) + 1, Columns: []int{n}})
	default:
		t.Indexes = t.Indexes[:m.Intn(len(t.Indexes))]
	}
}

func TestCheckAgainstTheModel(t *testing.T) {
	m := newMaker(2)
	var may, mayNot int
	for range 400 {
		text := m.going(m.Intn(14))
		for range 40 {
			c := mustOf(t, text)
			for range 1 + m.Intn(3) {
				m.change(&c)
			}
			want, ok := modelText(c)
			wantE := api.OK
			if !ok {
				wantE = api.ErrArg
				mayNot++
			} else {
				may++
			}
			if e := Check(c); e != wantE {
				t.Errorf("Check of %+v: %v, want %v", c, e, wantE)
			}
			if s, e := Text(c); s != want || e != wantE {
				t.Errorf("Text of %+v: %q, %v; want %q, %v", c, s, e, want, wantE)
			}
			for _, x := range c.Tables {
				if e := CheckTable(x); (e == api.OK) != modelTable(x) {
					t.Errorf("CheckTable of %+v: %v", x, e)
				}
			}
		}
	}
	if may < 1000 || mayNot < 1000 {
		t.Errorf("just %d may be, %d may not", may, mayNot)
	}
}

func TestRowsAgainstTheModel(t *testing.T) {
	m := newMaker(3)
	seen := map[api.Errno]int{}
	for range 250 {
		c := mustOf(t, m.going(25))
		for _, x := range c.Tables {
			for range 12 {
				row := m.row(x)
				seen[rowAgrees(t, m, x, row)]++
			}
		}
	}
	for _, e := range []api.Errno{api.OK, api.ErrArg, api.ErrNotNull, api.ErrLong} {
		if seen[e] < 50 {
			t.Errorf("%v was told %d times", e, seen[e])
		}
	}
}

// rowAgrees holds all that is told of a row, and of what is nearly its keys, against the model, and answers the error of Entries.
func rowAgrees(t *testing.T, m *maker, x api.Table, row []api.Value) api.Errno {
	t.Helper()
	fitsSo(t, x, row, modelFits(x, row))
	at, e := modelRow(x, row)
	if got, gotE := Row(x, row); got != at || gotE != e {
		t.Errorf("Row of %+v, %v: %q, %v; want %q, %v", x, row, got, gotE, at, e)
	}
	l, e := modelEntries(x, row)
	if got, gotE := Entries(x, row); !slices.Equal(got, l) || gotE != e {
		t.Errorf("Entries of %+v, %v: %q, %v; want %q, %v", x, row, got, gotE, l, e)
	}
	all := append(l, at, api.KV{})
	for _, y := range all {
		for i := range 5 {
			if i > 0 {
				y = m.bent(y)
			}
			kvAgrees(t, x, y)
		}
	}
	some := row[:min(m.Intn(6), len(row))]
	for index := -1; index < 10; index++ {
		want, wantE := modelBegins(x, index, some)
		if got, gotE := Begins(x, index, some); got != want || gotE != wantE {
			t.Errorf("Begins of %+v, %d, %v: %q, %v; want %q, %v", x, index, some, got, gotE, want, wantE)
		}
	}
	return e
}

// kvAgrees holds what is told of a key and a value against the model.
func kvAgrees(t *testing.T, x api.Table, y api.KV) {
	t.Helper()
	want, wantE := modelUnrow(x, y)
	if got, e := Unrow(x, y); !slices.Equal(got, want) || e != wantE || e != api.OK && got != nil {
		t.Errorf("Unrow of %+v, %q: %v, %v; want %v, %v", x, y, got, e, want, wantE)
	}
	for index := range len(x.Indexes) + 2 {
		want, wantE := modelPoints(x, index, y)
		if got, e := Points(x, index, y); got != want || e != wantE {
			t.Errorf("Points of %+v, %d, %q: %q, %v; want %q, %v", x, index, y, got, e, want, wantE)
		}
	}
}
