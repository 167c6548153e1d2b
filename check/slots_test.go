package check

import (
	"slices"
	"testing"

	"stagepost/api"
)

// These are the tests of P16.2.

func TestSlots(t *testing.T) {
	a, b, c := api.Column{Name: "a", Kind: api.Int, NotNull: true}, api.Column{Name: "b", Kind: api.Text, NotNull: true}, api.Column{Name: "c", Kind: api.Bool, NotNull: true}
	d, sa, e := api.Column{Name: "d", Kind: api.Int, NotNull: true}, api.Column{Name: "a", Kind: api.Int}, api.Column{Name: "e", Kind: api.Bool}
	for text, want := range map[string][]api.Column{
		"select 1 from t":                                        {a, b, c},
		"select b as x from t as y":                              {a, b, c},
		"select count ( * ) from t join s on true":               {a, b, c, d, sa, e},
		"select s.e from s join t on true join s as x on s.e":    {d, sa, e, a, b, c, d, sa, e},
		"select 1 from s as t join t as s on true where s.a = 1": {d, sa, e, a, b, c},
		"update t set b = 'x'":                                   {a, b, c},
		"update s set e = d = a where a is null":                 {d, sa, e},
		"delete from t":                                          {a, b, c},
		"delete from s where e":                                  {d, sa, e},
		"insert into t values ( 1 , 'x' , true )":                nil,
		"insert into s ( d ) values ( 1 )":                       nil,
		"begin":                                                  nil,
		"commit":                                                 nil,
		"rollback":                                               nil,
		"savepoint t":                                            nil,
		"rollback to t":                                          nil,
	} {
		if l, e := Slots(mustOf(t, some), parsed(t, text)); !slices.Equal(l, want) || e != api.OK {
			t.Errorf("Slots of %q: %v, %v; want %v", text, l, e, want)
		}
	}
}

// TestSlotsAreThePlacesOfColumns: what a column's Slot says is the column of that name and kind.
func TestSlotsAreThePlacesOfColumns(t *testing.T) {
	s := parsed(t, "select * from wide join s on true join wide as x on true join t on true where s.a = t.a")
	b, e := Bind(mustOf(t, some), s)
	l, f := Slots(mustOf(t, some), s)
	if e != api.OK || f != api.OK || len(l) != 30 || len(b.Items) != 30 {
		t.Fatalf("%d items, %v, and %d slots, %v", len(b.Items), e, len(l), f)
	}
	for i, item := range b.Items {
		if item.Expr.Slot != i || item.Expr.Name != l[i].Name || item.Expr.Kind != l[i].Kind {
			t.Errorf("the slot %d: %v, %v", i, item.Expr, l[i])
		}
	}
}
