package check

import (
	"testing"

	"stagepost/api"
	"stagepost/catalog"
)

// TestExamples are the chapter's, told wholly.
func TestExamples(t *testing.T) {
	bindSo(t, api.Select, "",
		asked{"select a , x.c from t as x where a = 1", "items a#0:i as a, x.c#2:b as c; from t as x; where eq(a#0:i 1:i):b"},
		asked{"select * from t", "items t.a#0:i as a, t.b#1:t as b, t.c#2:b as c; from t"},
	)
	refuses(t, api.ErrTwice, "select 1 from t join t on true")
	refuses(t, api.ErrType, "select a + b from t", "update t set a = 'x'")
	refuses(t, api.ErrGroup, "select count ( * ) , a from t")
	refuses(t, api.ErrName, "select d from t")
	refuses(t, api.ErrCount, "insert into t values ( 1 )")
	bindSo(t, api.Insert, "t", asked{"insert into t ( b , a ) values ( 'x' , 7 )", "names a, b, c; rows 7:i 'x':t null:n"})
}

// TestExampleAsItStands has all fields of one bound statement written out.
func TestExampleAsItStands(t *testing.T) {
	c, _ := catalog.Of(example)
	got, e := Bind(c, parsed(t, "select a , x.c from t as x where a = 1"))
	one := api.Expr{Op: api.OpValue, Value: api.Value{Kind: api.Int, Int: 1}, Kind: api.Int}
	a := api.Expr{Op: api.OpName, Name: "a", Kind: api.Int}
	want := api.Stmt{
		Kind:  api.Select,
		Items: []api.Item{{Expr: a, As: "a"}, {Expr: api.Expr{Op: api.OpName, Table: "x", Name: "c", Slot: 2, Kind: api.Bool}, As: "c"}},
		From:  []api.Source{{Table: "t", As: "x"}},
		Where: api.Expr{Op: api.OpEq, Kind: api.Bool, Args: []api.Expr{a, one}},
		Limit: -1,
	}
	if !equal(got, want) || e != api.OK {
		t.Errorf("%+v, %v; want %+v", got, e, want)
	}
}

func TestNumbersOfErrors(t *testing.T) {
	for e, want := range map[api.Errno]int{api.ErrArg: 2, api.ErrLong: 3, api.ErrType: 220, api.ErrName: 260, api.ErrTwice: 261, api.ErrGroup: 262, api.ErrCount: 263} {
		if int(e) != want {
			t.Errorf("%v is not %d", e, want)
		}
	}
	if api.MaxTold != 64 {
		t.Error("MaxTold is not 64")
	}
}
