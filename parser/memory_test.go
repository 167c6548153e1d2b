package parser

import (
	"reflect"
	"slices"
	"strings"
	"testing"
	"unsafe"

	"stagepost/api"
)

// These are the tests of rule 4, and of P7: an answer hangs on the arguments alone.

// room is a piece of memory.
type room struct{ from, to uintptr }

func (r room) meets(o room) bool { return r.from < o.to && o.from < r.to }

func roomOf(s string) room {
	from := uintptr(unsafe.Pointer(unsafe.StringData(s)))
	return room{from, from + uintptr(len(s))}
}

// rooms are those of all lists in v, their spare room too, and of all texts in it.
func rooms(v reflect.Value) (lists, texts []room) {
	fields(v, "", func(v reflect.Value, _ string) {
		switch {
		case v.Kind() == reflect.Slice && v.Cap() > 0:
			from := v.Pointer()
			lists = append(lists, room{from, from + uintptr(v.Cap())*v.Type().Elem().Size()})
		case v.Kind() == reflect.String && v.Len() > 0:
			texts = append(texts, roomOf(v.String()))
		}
	})
	return lists, texts
}

func roomsOf[T any](x T) (lists, texts []room) { return rooms(reflect.ValueOf(&x).Elem()) }

func meetAny(l, m []room) bool {
	return slices.ContainsFunc(l, func(r room) bool { return slices.ContainsFunc(m, r.meets) })
}

// meetOneAnother says whether two of them meet.
func meetOneAnother(l []room) bool {
	for i, r := range l {
		if slices.ContainsFunc(l[i+1:], r.meets) {
			return true
		}
	}
	return false
}

// fresh is a text in memory of its own.
func fresh(s string) string { return string([]byte(s)) }

// several are texts of statements with lists of many lengths.
func several() []string {
	l := full()
	for n := 1; n <= 12; n++ {
		l = append(l, "select "+times(n, "a + b * count ( c )")+" from t group by "+times(n, "a")+" order by "+times(n, "- a"), "insert into t ( "+times(n, "a")+" ) values "+times(n, "( 1 , 'x' , - a )"), "update t set "+times(n, "a = 'b' || c"))
	}
	return l
}

func TestAnswersAreNewMemory(t *testing.T) {
	for _, said := range several() {
		said = fresh(said)
		was := strings.Clone(said)
		s, again := mustParse(t, said), mustParse(t, said)
		all, f := Script(strings.TrimSuffix(said, ";") + ";" + said)
		if f != (api.Fault{}) {
			t.Fatalf("Script of %q: %v", said, f)
		}
		lists, texts := roomsOf(s)
		others, _ := roomsOf(again)
		ofAll, textsOfAll := roomsOf(all)
		if meetOneAnother(lists) || meetOneAnother(ofAll) {
			t.Errorf("two lists of %q share their memory", short(said))
		}
		if meetAny(lists, others) || meetAny(lists, ofAll) {
			t.Errorf("lists of two answers of %q share their memory", short(said))
		}
		if meetAny(texts, []room{roomOf(said)}) || meetAny(textsOfAll, []room{roomOf(said)}) {
			t.Errorf("texts of %q share its memory", short(said))
		}
		if said != was {
			t.Errorf("%q was changed", short(was))
		}
	}
}

func TestExpressionsAreNewMemory(t *testing.T) {
	m := newMaker(10)
	for i := range 300 {
		var w words
		tellExpr(&w, m.expr(i%15), &vary{m.Rand})
		said := fresh(w.written(nil))
		lists, texts := roomsOf(mustExpr(t, said))
		others, _ := roomsOf(mustExpr(t, said))
		if meetOneAnother(lists) || meetAny(lists, others) || meetAny(texts, []room{roomOf(said)}) {
			t.Errorf("Expr of %q is not new memory", said)
		}
	}
}

// TestAnswersAreNotChangedByOthers: one is overwritten, spare room and all, and no other answer is another one, earlier or later.
func TestAnswersAreNotChangedByOthers(t *testing.T) {
	for _, said := range several() {
		want := mustParse(t, said)
		one, two := mustParse(t, said), mustParse(t, said)
		overwrite(reflect.ValueOf(&one).Elem())
		if !equal(two, want) || !equal(mustParse(t, said), want) {
			t.Errorf("Parse of %q was changed by another answer", short(said))
		}
		l, _ := Script(said)
		overwrite(reflect.ValueOf(&l).Elem())
		if m, _ := Script(said); len(m) != 1 || !equal(m[0], want) {
			t.Errorf("Script of %q was changed by another answer", short(said))
		}
	}
}

// overwrite puts other things into all lists in v, and into their spare room.
func overwrite(v reflect.Value) {
	switch v.Kind() {
	case reflect.Struct:
		for i := range v.NumField() {
			overwrite(v.Field(i))
		}
	case reflect.Slice:
		for i := range v.Len() {
			overwrite(v.Index(i))
		}
		all := v.Slice(0, v.Cap())
		for i := range all.Len() {
			var n int64
			fill(all.Index(i), &n, 1)
		}
	}
}

// TestWhatIsHandedInIsLeft as it is, its spare room too, and is not looked at later.
func TestWhatIsHandedInIsLeft(t *testing.T) {
	handed := []api.Stmt{filledStmt(), donor(), {}}
	for _, said := range several() {
		handed = append(handed, mustParse(t, said))
	}
	for _, s := range handed {
		roomy(reflect.ValueOf(&s).Elem())
		was := wholly(s)
		told, e := Print(s)
		Same(s, handed[0])
		Same(handed[0], s)
		if len(s.Items) > 0 {
			PrintExpr(s.Items[0].Expr)
			SameExpr(s.Items[0].Expr, s.Where)
		}
		if wholly(s) != was {
			t.Errorf("%+v was changed", s)
		}
		kept := strings.Clone(told)
		_, texts := roomsOf(s)
		if e == api.OK && meetAny(texts, []room{roomOf(told)}) {
			t.Errorf("Print of %+v shares its memory", s)
		}
		overwrite(reflect.ValueOf(&s).Elem())
		if told != kept {
			t.Errorf("Print was changed from outside: %q", short(told))
		}
	}
	for _, x := range exprs(a(), text("x"), col(fresh("abc")), do(api.OpNot, a()), filledExpr()) {
		roomy(reflect.ValueOf(&x).Elem())
		was := wholly(x)
		told, e := PrintExpr(x)
		_, texts := roomsOf(x)
		if wholly(x) != was || e == api.OK && meetAny(texts, []room{roomOf(told)}) {
			t.Errorf("PrintExpr of %+v", x)
		}
	}
}

// roomy gives all lists in v spare room, with something in it.
func roomy(v reflect.Value) {
	switch v.Kind() {
	case reflect.Struct:
		for i := range v.NumField() {
			roomy(v.Field(i))
		}
	case reflect.Slice:
		for i := range v.Len() {
			roomy(v.Index(i))
		}
		n := v.Len()
		more := reflect.MakeSlice(v.Type(), n+3, n+3)
		reflect.Copy(more, v)
		for i := n; i < n+3; i++ {
			var k int64
			fill(more.Index(i), &k, 0)
		}
		v.Set(more.Slice(0, n))
	}
}

// wholly tells all of x, the spare room of its lists too.
func wholly(x any) string {
	var b strings.Builder
	tellWholly(&b, reflect.ValueOf(x))
	return b.String()
}

func tellWholly(b *strings.Builder, v reflect.Value) {
	switch v.Kind() {
	case reflect.Struct:
		for i := range v.NumField() {
			tellWholly(b, v.Field(i))
		}
	case reflect.Slice:
		b.WriteString("[")
		all := v
		if v.Cap() > v.Len() {
			all = v.Slice(0, v.Cap())
		}
		for i := range all.Len() {
			tellWholly(b, all.Index(i))
		}
		b.WriteString("]")
	case reflect.String:
		b.WriteString(v.String() + "|")
	case reflect.Bool:
		b.WriteString(map[bool]string{false: "f", true: "t"}[v.Bool()])
	case reflect.Int, reflect.Int64:
		b.WriteString(string(rune(v.Int()&0xffff)) + "|")
	default:
		b.WriteString(string(rune(v.Uint())) + "|")
	}
}

// TestTheSpareRoomSaysNothing: of two statements that differ in that alone Print tells the same, and Same is true.
func TestTheSpareRoomSaysNothing(t *testing.T) {
	for _, said := range several() {
		s, with := mustParse(t, said), mustParse(t, said)
		roomy(reflect.ValueOf(&with).Elem())
		want, e := Print(s)
		if e != api.OK || !Same(s, with) || !Same(with, s) {
			t.Errorf("Same of %q: %v", short(said), e)
		}
		prints(t, want, with)
	}
}

// TestAnswersHangOnArgumentsAlone asks again, behind other calls and refusals, in another order.
func TestAnswersHangOnArgumentsAlone(t *testing.T) {
	texts := append(several(), "", "!", "select from t", "a + b", "begin;begin", strings.Repeat("(", 41), strings.Repeat(" ", 65537), "9223372036854775808", "- 5", strings.Repeat("begin;", 65))
	type answers struct {
		s  api.Stmt
		f  api.Fault
		l  []api.Stmt
		fl api.Fault
		x  api.Expr
		fx api.Fault
	}
	ask := func(s string) (a answers) {
		a.s, a.f = Parse(s)
		a.l, a.fl = Script(s)
		a.x, a.fx = Expr(s)
		return a
	}
	var first []answers
	for _, s := range texts {
		first = append(first, ask(s))
	}
	for i := len(texts) - 1; i >= 0; i-- {
		if !reflect.DeepEqual(ask(texts[i]), first[i]) {
			t.Errorf("%q: first %+v, then %+v", short(texts[i]), first[i], ask(texts[i]))
		}
	}
}

// TestAllAtOnce: calls that run side by side do not meet.
func TestAllAtOnce(t *testing.T) {
	done := make(chan bool)
	for range 8 {
		go func() {
			ok := true
			for _, said := range several() {
				s, f := Parse(said)
				told, e := Print(s)
				again, g := Parse(told)
				ok = ok && f == (api.Fault{}) && e == api.OK && g == (api.Fault{}) && Same(s, again)
			}
			done <- ok
		}()
	}
	for range 8 {
		if !<-done {
			t.Error("side by side they answer something else")
		}
	}
}
