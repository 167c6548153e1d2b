package parser

import (
	"reflect"
	"testing"

	"stagepost/api"
)

// fill fills v and all that is in it, each list with two unlike ones, no field being its zero value; expressions are so deep.
func fill(v reflect.Value, n *int64, depth int) {
	*n++
	switch v.Kind() {
	case reflect.Struct:
		for i := range v.NumField() {
			fill(v.Field(i), n, depth)
		}
	case reflect.Slice:
		if v.Type() == reflect.TypeFor[[]api.Expr]() {
			depth--
		}
		if depth < 0 {
			return
		}
		v.Set(reflect.MakeSlice(v.Type(), 2, 5))
		fill(v.Index(0), n, depth)
		fill(v.Index(1), n, depth)
	case reflect.String:
		v.SetString("s" + string(rune('A'+*n%64)))
	case reflect.Bool:
		v.SetBool(true)
	case reflect.Int, reflect.Int64:
		v.SetInt(*n)
	default:
		v.SetUint(uint64(1 + *n%200))
	}
}

func filledStmt() api.Stmt {
	var s api.Stmt
	var n int64
	fill(reflect.ValueOf(&s).Elem(), &n, 2)
	return s
}

func filledExpr() api.Expr {
	var x api.Expr
	var n int64
	fill(reflect.ValueOf(&x).Elem(), &n, 3)
	return x
}

// changes are all values near that of a field that are not the same as it.
func changes(v reflect.Value) []reflect.Value {
	var l []reflect.Value
	other := func(set func(reflect.Value)) {
		x := reflect.New(v.Type()).Elem()
		x.Set(v)
		set(x)
		l = append(l, x)
	}
	switch v.Kind() {
	case reflect.Slice:
		other(func(x reflect.Value) { x.SetZero() })
		if v.Len() == 0 { // one that stands in no statement
			l = l[:0]
			break
		}
		other(func(x reflect.Value) { x.Set(x.Slice(0, 1)) })
		other(func(x reflect.Value) { x.Set(x.Slice(1, 2)) })
		other(func(x reflect.Value) { x.Set(x.Slice(0, 3)) })
		other(func(x reflect.Value) {
			x.Set(reflect.MakeSlice(v.Type(), 2, 2))
			x.Index(0).Set(v.Index(1))
			x.Index(1).Set(v.Index(0))
		})
	case reflect.String:
		for _, s := range []string{"", v.String() + "x", "x" + v.String(), v.String()[:1], "z" + v.String()[1:]} {
			other(func(x reflect.Value) { x.SetString(s) })
		}
	case reflect.Bool:
		other(func(x reflect.Value) { x.SetBool(!v.Bool()) })
	case reflect.Int, reflect.Int64:
		for _, n := range []int64{0, v.Int() + 1, v.Int() - 1, -v.Int(), v.Int() + 256, v.Int() + 1<<32} {
			other(func(x reflect.Value) { x.SetInt(n) })
		}
	default:
		for _, n := range []uint64{0, v.Uint() + 1, v.Uint() - 1, v.Uint() + 16} {
			if n != v.Uint() {
				other(func(x reflect.Value) { x.SetUint(n) })
			}
		}
	}
	return l
}

// differ sees to it that each field says whether two statements, or expressions, are the same.
func differ[T any](t *testing.T, one, two T, same func(a, b T) bool) {
	t.Helper()
	if !same(one, two) || !same(two, one) || !same(one, one) {
		t.Errorf("%T is not the same as it is", one)
	}
	done := 0
	fields(reflect.ValueOf(&two).Elem(), "", func(v reflect.Value, path string) {
		for _, to := range changes(v) {
			done++
			with(v, to, func() {
				if same(one, two) || same(two, one) {
					t.Errorf("%s is %v and %v, and all is the same", path, v, to)
				}
			})
		}
	})
	if !same(one, two) {
		t.Error("what was changed was not put back")
	}
	if done < 100 {
		t.Errorf("%d changes alone", done)
	}
}

func TestSameOfEachField(t *testing.T) {
	differ(t, filledStmt(), filledStmt(), Same)
	differ(t, filledExpr(), filledExpr(), SameExpr)
	if reflect.TypeFor[api.Stmt]().NumField() != 15 || reflect.TypeFor[api.Expr]().NumField() != 7 {
		t.Error("there are other fields than those")
	}
}

// TestSameOfNoneAndEmptyLists, each alone and all together.
func TestSameOfNoneAndEmptyLists(t *testing.T) {
	var none, empty api.Stmt
	fields(reflect.ValueOf(&empty).Elem(), "", func(v reflect.Value, path string) {
		if v.Kind() != reflect.Slice {
			return
		}
		v.Set(reflect.MakeSlice(v.Type(), 0, 4))
		if !Same(none, empty) || !Same(empty, none) {
			t.Errorf("none and an empty one at %s", path)
		}
	})
	for _, l := range [][]api.Expr{nil, {}, make([]api.Expr, 0, 9)} {
		for _, m := range [][]api.Expr{nil, {}, make([]api.Expr, 0, 9)} {
			if !SameExpr(api.Expr{Args: l}, api.Expr{Args: m}) || !SameExpr(do(api.OpNot, api.Expr{Args: l}), do(api.OpNot, api.Expr{Args: m})) {
				t.Error("SameExpr of none and an empty one")
			}
			if !Same(api.Stmt{Rows: [][]api.Expr{l}}, api.Stmt{Rows: [][]api.Expr{m}}) || Same(api.Stmt{Rows: [][]api.Expr{l}}, api.Stmt{}) {
				t.Error("Same of none and an empty row")
			}
		}
	}
	if !Same(none, none) || !SameExpr(api.Expr{}, api.Expr{}) {
		t.Error("nothing is not the same as nothing")
	}
}

// TestSameOfThoseThatAreNone: it asks no more than that all fields are the same.
func TestSameOfThoseThatAreNone(t *testing.T) {
	for _, s := range []api.Stmt{{}, {Kind: 99}, {Limit: -7}, {Name: "\xff"}, donor()} {
		if !Same(s, s) || Same(s, of1(func(*api.Stmt) {})) {
			t.Errorf("Same of %+v", s)
		}
	}
	for _, x := range []api.Expr{{}, {Op: 99}, {Slot: -1}, {Name: "\xff"}, do(api.OpAdd, a()), do(api.OpNone, a(), b(), c())} {
		if !SameExpr(x, x) || SameExpr(x, a()) {
			t.Errorf("SameExpr of %+v", x)
		}
	}
	if SameExpr(a(), b()) || SameExpr(num(1), yes()) || SameExpr(col("a"), col("t", "a")) || SameExpr(num(5), do(api.OpNeg, num(-5))) || SameExpr(text(""), null()) {
		t.Error("SameExpr of unlike ones")
	}
}

// TestSameOfStatements: of each two statements that are told unlike.
func TestSameOfStatements(t *testing.T) {
	l := full()
	for i, one := range l {
		for j, two := range l {
			if Same(mustParse(t, one), mustParse(t, two)) != (i == j) {
				t.Errorf("Same of %q and %q", one, two)
			}
		}
	}
	m := newMaker(9)
	for range 500 {
		s := m.stmt()
		told, e := Print(s)
		if e != api.OK || !Same(s, mustParse(t, told)) {
			t.Errorf("Same of %q: %v", told, e)
		}
		if other := m.stmt(); Same(s, other) != equal(s, other) {
			t.Errorf("Same of %+v and %+v", s, other)
		}
	}
}
