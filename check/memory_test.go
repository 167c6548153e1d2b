package check

import (
	"reflect"
	"slices"
	"testing"
	"unsafe"

	"stagepost/api"
)

// These are the tests of rule 4, and of P7: an answer hangs on the arguments alone.

// room is a piece of memory.
type room struct{ from, to uintptr }

func (r room) meets(o room) bool { return r.from < o.to && o.from < r.to }

// rooms are those of all lists in x, their spare room too, and of all texts in it.
func rooms[T any](x T) (lists, texts []room) {
	through(reflect.ValueOf(&x).Elem(), func(v reflect.Value) {
		switch {
		case v.Kind() == reflect.Slice && v.Cap() > 0:
			from := v.Pointer()
			lists = append(lists, room{from, from + uintptr(v.Cap())*v.Type().Elem().Size()})
		case v.Kind() == reflect.String && v.Len() > 0:
			from := uintptr(unsafe.Pointer(unsafe.StringData(v.String())))
			texts = append(texts, room{from, from + uintptr(v.Len())})
		}
	})
	return lists, texts
}

// through goes through v and all that is in it.
func through(v reflect.Value, do func(reflect.Value)) {
	switch v.Kind() {
	case reflect.Struct:
		for i := range v.NumField() {
			through(v.Field(i), do)
		}
	case reflect.Slice:
		for i := range v.Len() {
			through(v.Index(i), do)
		}
	}
	do(v)
}

func meetAny(l, m []room) bool {
	return slices.ContainsFunc(l, func(r room) bool { return slices.ContainsFunc(m, r.meets) })
}

func meetOneAnother(l []room) bool {
	for i, r := range l {
		if slices.ContainsFunc(l[i+1:], r.meets) {
			return true
		}
	}
	return false
}

// roomy gives all lists in x spare room with something in it, and all texts memory of their own.
func roomy[T any](x *T) {
	through(reflect.ValueOf(x).Elem(), func(v reflect.Value) {
		switch v.Kind() {
		case reflect.Slice:
			n := v.Len()
			more := reflect.MakeSlice(v.Type(), n+3, n+3)
			reflect.Copy(more, v)
			for i := n; i < n+3; i++ {
				fill(more.Index(i))
			}
			v.Set(more.Slice(0, n))
		case reflect.String:
			v.SetString(string([]byte(v.String())))
		}
	})
}

// fill puts something else everywhere.
func fill(v reflect.Value) {
	through(v, func(v reflect.Value) {
		switch v.Kind() {
		case reflect.String:
			v.SetString("something else")
		case reflect.Bool:
			v.SetBool(!v.Bool())
		case reflect.Int, reflect.Int64:
			v.SetInt(v.Int() + 77)
		case reflect.Uint8:
			v.SetUint(v.Uint() + 77)
		}
	})
}

// overwrite puts something else into all lists in x, and into their spare room.
func overwrite[T any](x *T) {
	through(reflect.ValueOf(x).Elem(), func(v reflect.Value) {
		if v.Kind() == reflect.Slice {
			all := v.Slice(0, v.Cap())
			for i := range all.Len() {
				fill(all.Index(i))
			}
		}
	})
}

// wholly is x, as it is now, with all that lies in the spare room of its lists.
func wholly[T any](x T) T {
	to := x
	takeAll(reflect.ValueOf(&to).Elem())
	return to
}

func takeAll(v reflect.Value) {
	switch v.Kind() {
	case reflect.Struct:
		for i := range v.NumField() {
			takeAll(v.Field(i))
		}
	case reflect.Slice:
		all := reflect.MakeSlice(v.Type(), v.Cap(), v.Cap())
		if v.Cap() > 0 {
			reflect.Copy(all, v.Slice(0, v.Cap()))
		}
		for i := range all.Len() {
			takeAll(all.Index(i))
		}
		v.Set(all)
	}
}

// answers are what both calls say of a statement.
type answers struct {
	Stmt  api.Stmt
	Slots []api.Column
	Errs  []api.Errno
}

// handed is what both calls are handed.
type handed struct {
	C api.Catalog
	S api.Stmt
}

func (h handed) ask() (a answers) {
	b, e := Bind(h.C, h.S)
	l, f := Slots(h.C, h.S)
	return answers{b, l, []api.Errno{e, f}}
}

// several are what is handed in here: with answers, and with refusals.
func several(t *testing.T) (all []handed) {
	t.Helper()
	for _, text := range []string{
		"select a , x.b as y , 'some text' || x.b , 1 + 2 from t as x join s as z on d = 1 and x.a = z.a where b = 'another text' or not null order by x.b desc , z.a",
		"select * , * , s.a as a from t join s on true", "select b , c , sum ( a ) , min ( b ) || 'text' from t group by b , t.c order by t.b , count ( * )",
		"select 1 from wide as x join wide as y on x.k1 = y.k2 join wide as z on true join wide on true",
		"insert into t ( b , a ) values ( 'some text' , 7 ) , ( 'some' || 'text' , null ) , ( null , - 1 )", "insert into s values ( 1 , 2 , true )", "insert into wide ( k11 ) values ( 'some text' )",
		"update t set b = b || 'some text' , a = t.a + 1 where t.b = 'another text'", "delete from s where s.d = 7 and s.a is null", "delete from s",
		"begin", "commit", "rollback", "savepoint some", "rollback to some",
		"select zz from t", "select 1 from t join t on true", "select count ( * ) , a from t", "insert into t values ( 'x' )", "update t set a = 'x'", "delete from zz", "create index x on t ( a )",
	} {
		all = append(all, handed{mustOf(t, some), parsed(t, text)})
	}
	bad := handed{mustOf(t, some), parsed(t, "select a from t where a = 1")}
	bad.C.Tables[1].Number = 7
	all = append(all, bad)
	bad = handed{mustOf(t, some), bad.S}
	bad.S.Where.Kind = api.Bool
	return append(all, bad)
}

func TestWhatIsHandedInIsLeft(t *testing.T) {
	for i, h := range several(t) {
		want := h.ask()
		roomy(&h)
		was := wholly(h)
		got := h.ask()
		if !reflect.DeepEqual(wholly(h), was) {
			t.Errorf("%d: what was handed in was changed", i)
		}
		if !reflect.DeepEqual(got, want) {
			t.Errorf("%d: an answer hangs on spare room: %+v, %+v", i, got, want)
		}
		inLists, inTexts := rooms(h)
		lists, texts := rooms(got)
		if meetAny(lists, inLists) || meetAny(texts, inTexts) {
			t.Errorf("%d: an answer shares memory with what was handed in", i)
		}
		if meetOneAnother(lists) {
			t.Errorf("%d: two lists share memory", i)
		}
		overwrite(&h)
		if !reflect.DeepEqual(got, want) {
			t.Errorf("%d: an answer was changed from outside", i)
		}
	}
}

// TestAnswersAreNewMemory: one that is overwritten, spare room and all, changes no other one.
func TestAnswersAreNewMemory(t *testing.T) {
	for i, h := range several(t) {
		want, one, two := h.ask(), h.ask(), h.ask()
		lists, _ := rooms(one)
		others, _ := rooms(two)
		if meetAny(lists, others) {
			t.Errorf("%d: two answers share memory", i)
		}
		overwrite(&one)
		if !reflect.DeepEqual(two, want) || !reflect.DeepEqual(h.ask(), want) {
			t.Errorf("%d: an answer was changed by another one", i)
		}
	}
}

// TestSpareRoomIsEmpty: behind the lists of an answer there is nothing of what was handed in.
func TestSpareRoomIsEmpty(t *testing.T) {
	for i, h := range several(t) {
		roomy(&h)
		got := h.ask()
		_, inTexts := rooms(h)
		_, texts := rooms(wholly(got))
		if meetAny(texts, inTexts) {
			t.Errorf("%d: the spare room has what was handed in", i)
		}
	}
}

// TestAnswersHangOnArgumentsAlone asks again, behind other calls and refusals, in another order.
func TestAnswersHangOnArgumentsAlone(t *testing.T) {
	all := several(t)
	var first []answers
	for _, h := range all {
		first = append(first, h.ask())
	}
	for i := len(all) - 1; i >= 0; i-- {
		if !reflect.DeepEqual(all[i].ask(), first[i]) {
			t.Errorf("%d: another answer", i)
		}
	}
}

// TestAllAtOnce: calls that run side by side do not meet.
func TestAllAtOnce(t *testing.T) {
	all := several(t)
	want := make([]answers, len(all))
	for i, h := range all {
		want[i] = h.ask()
	}
	done := make(chan bool)
	for range 8 {
		go func() {
			ok := true
			for i, h := range all {
				ok = ok && reflect.DeepEqual(h.ask(), want[i])
			}
			done <- ok
		}()
	}
	for range 8 {
		if !<-done {
			t.Error("side by side they answer something else")
		}
	}
}
