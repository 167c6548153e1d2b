package catalog

import (
	"encoding/binary"
	"reflect"
	"slices"
	"strconv"
	"strings"
	"testing"

	"stagepost/api"
)

// example is the text of the chapter's examples.
const example = "create table t ( a int , b text , c bool not null , primary key ( b , a ) ) ; create unique index u on t ( c ) ; create index i on t ( b ) ;"

func num(x int64) api.Value { return api.Value{Kind: api.Int, Int: x} }

func word(s string) api.Value { return api.Value{Kind: api.Text, Text: s} }

func yes() api.Value { return api.Value{Kind: api.Bool, Int: 1} }

func no() api.Value { return api.Value{Kind: api.Bool} }

func null() api.Value { return api.Value{} }

func list(l ...api.Value) []api.Value { return l }

// zeros is a text of n bytes, as many as that of them 0: in a tuple it has a byte more for each of these.
func zeros(n, zero int) api.Value {
	return word(strings.Repeat("\x00", zero) + strings.Repeat("x", n-zero))
}

// wrong are values that may not be.
func wrong() []api.Value {
	return list(api.Value{Int: 1}, api.Value{Text: "x"}, api.Value{Kind: api.Bool, Int: 2}, api.Value{Kind: api.Bool, Int: -1}, api.Value{Kind: api.Bool, Text: "x"},
		api.Value{Kind: api.Int, Text: "x"}, api.Value{Kind: api.Text, Int: 1}, word(strings.Repeat("x", 65)), api.Value{Kind: api.Text + 1}, api.Value{Kind: 255})
}

// told is the text of a tuple, put together anew by layer 1's words.
func told(l ...api.Value) string {
	var b []byte
	for _, v := range l {
		switch v.Kind {
		case api.Null:
			b = append(b, 1)
		case api.Bool:
			b = append(b, 2, byte(v.Int))
		case api.Int:
			b = binary.BigEndian.AppendUint64(append(b, 3), uint64(v.Int)+1<<63)
		case api.Text:
			b = append(b, "\x04"+strings.ReplaceAll(v.Text, "\x00", "\x00\xff")+"\x00\x01"...)
		}
	}
	return string(b)
}

func kv(key, value []api.Value) api.KV { return api.KV{Key: told(key...), Value: told(value...)} }

// equal says whether a and b are the same, none and empty lists being so.
func equal(a, b any) bool {
	return equalValues(reflect.ValueOf(a), reflect.ValueOf(b))
}

func equalValues(a, b reflect.Value) bool {
	switch a.Kind() {
	case reflect.Slice:
		if a.Len() != b.Len() {
			return false
		}
		for i := range a.Len() {
			if !equalValues(a.Index(i), b.Index(i)) {
				return false
			}
		}
		return true
	case reflect.Struct:
		for i := range a.NumField() {
			if !equalValues(a.Field(i), b.Field(i)) {
				return false
			}
		}
		return true
	}
	return a.Equal(b)
}

// short is the beginning of a text, for a message.
func short(s string) string { return s[:min(len(s), 300)] }

func mustOf(t testing.TB, text string) api.Catalog {
	t.Helper()
	c, f := Of(text)
	if f != (api.Fault{}) {
		t.Fatalf("Of of %q: %v", short(text), f)
	}
	return c
}

// table is the first table that the text makes.
func table(t testing.TB, text string) api.Table {
	t.Helper()
	return mustOf(t, text).Tables[0]
}

// makes sees to it that the text makes these tables, and that they may be.
func makes(t *testing.T, text string, want ...api.Table) {
	t.Helper()
	c, f := Of(text)
	if f != (api.Fault{}) || !equal(c.Tables, want) {
		t.Errorf("Of of %q: %+v, %v; want %+v", short(text), c, f, want)
	}
	if e := Check(c); e != api.OK {
		t.Errorf("Check of Of of %q: %v", short(text), e)
	}
	for _, x := range c.Tables {
		if e := CheckTable(x); e != api.OK {
			t.Errorf("CheckTable of %q of %q: %v", x.Name, short(text), e)
		}
	}
}

// faults sees to it that Of refuses the text so, at that place, with no catalog.
func faults(t *testing.T, e api.Errno, at int, text string) {
	t.Helper()
	if c, f := Of(text); f != (api.Fault{Err: e, At: at}) || c.Tables != nil {
		t.Errorf("Of of %q: %+v, %v; want %v at %d", short(text), c, f, e, at)
	}
}

// tables is the text of tables with the names t1, t2, .., each with the column a.
func tables(n int) string {
	var b strings.Builder
	for i := range n {
		b.WriteString("create table t" + strconv.Itoa(i+1) + " ( a int , primary key ( a ) ) ;\n")
	}
	return b.String()
}

// indexes is the text of n indexes of a table's column a, whose names begin so.
func indexes(n int, on, begin string) string {
	var b strings.Builder
	for i := range n {
		b.WriteString("create index " + begin + strconv.Itoa(i+1) + " on " + on + " ( a ) ;\n")
	}
	return b.String()
}

// numbered is n names a1, a2, .. with end behind each, parted by commas.
func numbered(n int, end string) string {
	var l []string
	for i := range n {
		l = append(l, "a"+strconv.Itoa(i+1)+end)
	}
	return strings.Join(l, " , ")
}

// fitsSo, isRow, hasEntries, isNoRow, .. see to it that a call answers so.

func fitsSo(t *testing.T, x api.Table, row []api.Value, want api.Errno) {
	t.Helper()
	if e := Fits(x, row); e != want {
		t.Errorf("Fits of %v: %v, want %v", row, e, want)
	}
}

func isRow(t *testing.T, x api.Table, row []api.Value, want api.KV) {
	t.Helper()
	if got, e := Row(x, row); got != want || e != api.OK {
		t.Errorf("Row of %v: %q, %v; want %q", row, got, e, want)
	}
	unrows(t, x, want, row)
}

func isNoRow(t *testing.T, x api.Table, row []api.Value, want api.Errno) {
	t.Helper()
	if got, e := Row(x, row); got != (api.KV{}) || e != want {
		t.Errorf("Row of %v: %q, %v; want %v", row, got, e, want)
	}
}

// hasEntries: each of them points to the row's key, too.
func hasEntries(t *testing.T, x api.Table, row []api.Value, want ...api.KV) {
	t.Helper()
	got, e := Entries(x, row)
	if !slices.Equal(got, want) || e != api.OK {
		t.Errorf("Entries of %v: %q, %v; want %q", row, got, e, want)
	}
	at, _ := Row(x, row)
	for i, y := range want {
		points(t, x, i+1, y, at.Key)
	}
}

func hasNoEntries(t *testing.T, x api.Table, row []api.Value, want api.Errno) {
	t.Helper()
	if got, e := Entries(x, row); got != nil || e != want {
		t.Errorf("Entries of %v: %q, %v; want %v", row, got, e, want)
	}
}

func unrows(t *testing.T, x api.Table, y api.KV, want []api.Value) {
	t.Helper()
	if got, e := Unrow(x, y); !slices.Equal(got, want) || e != api.OK {
		t.Errorf("Unrow of %q: %v, %v; want %v", y, got, e, want)
	}
}

func unrowsNot(t *testing.T, x api.Table, y api.KV, want api.Errno) {
	t.Helper()
	if got, e := Unrow(x, y); got != nil || e != want {
		t.Errorf("Unrow of %q: %v, %v; want %v", y, got, e, want)
	}
}

func points(t *testing.T, x api.Table, index int, y api.KV, want string) {
	t.Helper()
	if got, e := Points(x, index, y); got != want || e != api.OK {
		t.Errorf("Points of %d, %q: %q, %v; want %q", index, y, got, e, want)
	}
}

func pointsNot(t *testing.T, x api.Table, index int, y api.KV, want api.Errno) {
	t.Helper()
	if got, e := Points(x, index, y); got != "" || e != want {
		t.Errorf("Points of %d, %q: %q, %v; want %v", index, y, got, e, want)
	}
}

// begins sees to it that the keys of that index and these values are just those that begin with the text of want.
func begins(t *testing.T, x api.Table, index int, l []api.Value, want ...api.Value) {
	t.Helper()
	s := told(want...)
	if got, e := Begins(x, index, l); got != (api.Span{From: s, To: above(s)}) || e != api.OK {
		t.Errorf("Begins of %d, %v: %q, %v; want %q", index, l, got, e, s)
	}
}

// above is the least text above all that begin with s, which has a byte below 255.
func above(s string) string {
	for s[len(s)-1] == 255 {
		s = s[:len(s)-1]
	}
	return s[:len(s)-1] + string([]byte{s[len(s)-1] + 1})
}

func beginsNot(t *testing.T, x api.Table, index int, l []api.Value) {
	t.Helper()
	if got, e := Begins(x, index, l); got != (api.Span{}) || e != api.ErrArg {
		t.Errorf("Begins of %d, %v: %q, %v; want ErrArg", index, l, got, e)
	}
}
