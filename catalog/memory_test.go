package catalog

import (
	"reflect"
	"slices"
	"strings"
	"testing"
	"unsafe"

	"stagepost/api"
	"stagepost/parser"
)

// These are the tests of rule 4, and of P7: an answer hangs on the arguments alone.

// room is a piece of memory.
type room struct{ from, to uintptr }

func (r room) meets(o room) bool { return r.from < o.to && o.from < r.to }

// rooms are those of all lists in x, their spare room too, and of all texts in it.
func rooms[T any](x T) (lists, texts []room) {
	each(reflect.ValueOf(&x).Elem(), func(v reflect.Value) {
		switch {
		case v.Kind() == reflect.Slice && v.Cap() > 0:
			from := v.Pointer()
			lists = append(lists, room{from, from + uintptr(v.Cap())*v.Type().Elem().Size()})
		case v.Kind() == reflect.String && v.Len() > 0:
			from := uintptr(unsafe.Pointer(unsafe.StringData(v.String())))
			texts = append(texts, room{from, from + uintptr(v.Len())})
		}
	})
	return lists, texts
}

// each goes through v and all that is in it.
func each(v reflect.Value, do func(reflect.Value)) {
	switch v.Kind() {
	case reflect.Struct:
		for i := range v.NumField() {
			each(v.Field(i), do)
		}
	case reflect.Slice:
		for i := range v.Len() {
			each(v.Index(i), do)
		}
	}
	do(v)
}

func meetAny(l, m []room) bool {
	return slices.ContainsFunc(l, func(r room) bool { return slices.ContainsFunc(m, r.meets) })
}

func meetOneAnother(l []room) bool {
	for i, r := range l {
		if slices.ContainsFunc(l[i+1:], r.meets) {
			return true
		}
	}
	return false
}

// roomy gives all lists in x spare room with something in it, and all texts memory of their own.
func roomy[T any](x *T) {
	each(reflect.ValueOf(x).Elem(), func(v reflect.Value) {
		switch v.Kind() {
		case reflect.Slice:
			n := v.Len()
			more := reflect.MakeSlice(v.Type(), n+3, n+3)
			reflect.Copy(more, v)
			for i := n; i < n+3; i++ {
				fill(more.Index(i))
			}
			v.Set(more.Slice(0, n))
		case reflect.String:
			v.SetString(string([]byte(v.String())))
		}
	})
}

// fill puts something else everywhere.
func fill(v reflect.Value) {
	each(v, func(v reflect.Value) {
		switch v.Kind() {
		case reflect.String:
			v.SetString("something else")
		case reflect.Bool:
			v.SetBool(!v.Bool())
		case reflect.Int, reflect.Int64:
			v.SetInt(v.Int() + 77)
		case reflect.Uint8:
			v.SetUint(v.Uint() + 77)
		}
	})
}

// overwrite puts something else into all lists in x, and into their spare room.
func overwrite[T any](x *T) {
	each(reflect.ValueOf(x).Elem(), func(v reflect.Value) {
		if v.Kind() == reflect.Slice {
			all := v.Slice(0, v.Cap())
			for i := range all.Len() {
				fill(all.Index(i))
			}
		}
	})
}

// wholly is x, as it is now, with all that lies in the spare room of its lists.
func wholly[T any](x T) T {
	to := x
	takeAll(reflect.ValueOf(&to).Elem())
	return to
}

func takeAll(v reflect.Value) {
	switch v.Kind() {
	case reflect.Struct:
		for i := range v.NumField() {
			takeAll(v.Field(i))
		}
	case reflect.Slice:
		all := reflect.MakeSlice(v.Type(), v.Cap(), v.Cap())
		if v.Cap() > 0 {
			reflect.Copy(all, v.Slice(0, v.Cap()))
		}
		for i := range all.Len() {
			takeAll(all.Index(i))
		}
		v.Set(all)
	}
}

// answers are what all calls say of a catalog, its tables, rows and keys.
type answers struct {
	Text   string
	Errs   []api.Errno
	Tables []api.Table
	KVs    []api.KV
	Lists  [][]api.KV
	Rows   [][]api.Value
	Keys   []string
	Spans  []api.Span
}

// handed is what all calls are handed.
type handed struct {
	C    api.Catalog
	Name string
	T    api.Table
	Row  []api.Value
	L    []api.Value
	KV   api.KV
	At   []api.KV
}

func (h handed) ask() (a answers) {
	text, e := Text(h.C)
	found, _ := Find(h.C, h.Name)
	a.Tables = append(a.Tables, found)
	y, e1 := Row(h.T, h.Row)
	l, e2 := Entries(h.T, h.Row)
	row, e3 := Unrow(h.T, h.KV)
	a.Text = text
	a.KVs, a.Lists, a.Rows = append(a.KVs, y), append(a.Lists, l), append(a.Rows, row)
	a.Errs = append(a.Errs, e, e1, e2, e3, Check(h.C), CheckTable(h.T), Fits(h.T, h.Row))
	for i, at := range h.At {
		key, e4 := Points(h.T, i+1, at)
		span, e5 := Begins(h.T, i, h.L)
		a.Keys, a.Spans, a.Errs = append(a.Keys, key), append(a.Spans, span), append(a.Errs, e4, e5)
	}
	return a
}

// several are what is handed in here: with answers, and with refusals.
func several(t *testing.T) []handed {
	t.Helper()
	c := mustOf(t, two+"; create table z ( a int , primary key ( a ) )")
	x := c.Tables[1]
	row := list(num(7), word("some text"), yes(), null())
	y, _ := Row(x, row)
	l, _ := Entries(x, row)
	good := handed{C: c, Name: "t", T: x, Row: row, L: list(word("another text")), KV: y, At: l}
	all := []handed{good}
	bad := good
	bad.C = api.Catalog{Tables: []api.Table{c.Tables[1], c.Tables[0]}}
	all = append(all, bad)
	bad = good
	bad.T = copied(x)
	bad.T.Key[0] = 9
	all = append(all, bad)
	bad = good
	bad.Row, bad.L, bad.KV, bad.At = row[:3], list(zeros(64, 0), num(1), num(2)), api.KV{Key: y.Value, Value: y.Key}, []api.KV{l[1], l[0]}
	return append(all, bad)
}

func TestWhatIsHandedInIsLeft(t *testing.T) {
	for i, h := range several(t) {
		want := h.ask()
		roomy(&h)
		was := wholly(h)
		got := h.ask()
		if !reflect.DeepEqual(wholly(h), was) {
			t.Errorf("%d: what was handed in was changed", i)
		}
		if !reflect.DeepEqual(got, want) {
			t.Errorf("%d: an answer hangs on spare room: %+v, %+v", i, got, want)
		}
		inLists, inTexts := rooms(h)
		lists, texts := rooms(got)
		if meetAny(lists, inLists) || meetAny(texts, inTexts) {
			t.Errorf("%d: an answer shares memory with what was handed in", i)
		}
		if meetOneAnother(lists) {
			t.Errorf("%d: two lists share memory", i)
		}
		overwrite(&h)
		if !reflect.DeepEqual(got, want) {
			t.Errorf("%d: an answer was changed from outside", i)
		}
	}
}

// TestAnswersAreNewMemory: one that is overwritten, spare room and all, changes no other one.
func TestAnswersAreNewMemory(t *testing.T) {
	for i, h := range several(t) {
		want, one, two := h.ask(), h.ask(), h.ask()
		lists, _ := rooms(one)
		others, _ := rooms(two)
		if meetAny(lists, others) {
			t.Errorf("%d: two answers share memory", i)
		}
		overwrite(&one)
		if !reflect.DeepEqual(two, want) || !reflect.DeepEqual(h.ask(), want) {
			t.Errorf("%d: an answer was changed by another one", i)
		}
	}
}

func TestOfIsNewMemory(t *testing.T) {
	for _, text := range []string{example, two, pairs, tables(16) + indexes(8, "t1", "i") + indexes(8, "t2", "j"), newMaker(7).going(60)} {
		text = strings.Clone(text)
		want, one := mustOf(t, text), mustOf(t, text)
		lists, texts := rooms(one)
		others, _ := rooms(want)
		_, of := rooms(text)
		if meetOneAnother(lists) || meetAny(lists, others) || meetAny(texts, of) {
			t.Errorf("Of of %q is not new memory", short(text))
		}
		for i := range one.Tables {
			found, _ := Find(one, one.Tables[i].Name)
			more, texts := rooms(found)
			_, of := rooms(one)
			if meetAny(more, lists) || meetOneAnother(more) || meetAny(texts, of) {
				t.Errorf("Find of %q is not new memory", one.Tables[i].Name)
			}
		}
		overwrite(&one)
		if !equal(mustOf(t, text), want) {
			t.Errorf("Of of %q was changed from outside", short(text))
		}
	}
}

// TestGrownLeavesTheCatalog that was there ahead, whatever room its lists have.
func TestGrownLeavesTheCatalog(t *testing.T) {
	for _, more := range []bool{false, true} {
		c := mustOf(t, two)
		if more {
			roomy(&c)
		}
		was := wholly(c)
		for _, text := range []string{"create table z ( a int , primary key ( a ) )", "create index z on t ( d )", "create index z on s ( a )"} {
			s, f := parser.Parse(text)
			if f != (api.Fault{}) {
				t.Fatalf("Parse of %q: %v", text, f)
			}
			roomy(&s)
			said := wholly(s)
			one, e := grown(c, s)
			again, _ := grown(c, s)
			if e != api.OK || !reflect.DeepEqual(wholly(c), was) || !reflect.DeepEqual(wholly(s), said) {
				t.Errorf("%q: %v", text, e)
			}
			if !equal(one, mustOf(t, two+";"+text)) || !equal(one, again) {
				t.Errorf("%q: %+v", text, one)
			}
		}
	}
}

// TestAnswersHangOnArgumentsAlone asks again, behind other calls and refusals, in another order.
func TestAnswersHangOnArgumentsAlone(t *testing.T) {
	all := several(t)
	var first []answers
	for _, h := range all {
		first = append(first, h.ask())
	}
	for i := len(all) - 1; i >= 0; i-- {
		if !reflect.DeepEqual(all[i].ask(), first[i]) {
			t.Errorf("%d: another answer", i)
		}
	}
}

// TestAllAtOnce: calls that run side by side do not meet.
func TestAllAtOnce(t *testing.T) {
	all := several(t)
	want := make([]answers, len(all))
	for i, h := range all {
		want[i] = h.ask()
	}
	done := make(chan bool)
	for range 8 {
		go func() {
			ok := true
			for i, h := range all {
				ok = ok && reflect.DeepEqual(h.ask(), want[i])
				c, f := Of(example)
				ok = ok && f == (api.Fault{}) && len(c.Tables) == 1
			}
			done <- ok
		}()
	}
	for range 8 {
		if !<-done {
			t.Error("side by side they answer something else")
		}
	}
}
