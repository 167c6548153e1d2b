package check

import (
	"strings"
	"testing"

	"stagepost/api"
)

// These are the tests of rule 1, and of the order in which P16.1 has the errors: a statement is cut at its places, from the first that is asked to the last; each place is right, or wrong in one of some ways; of all combinations the first wrong place is told.

// place is what may stand at one @ of a statement: right, or wrong so.
type place struct {
	at    int // the @, by number; of several places that share one the texts are joined
	right string
	wrong []fault
}

type fault struct {
	text string
	err  api.Errno
}

// allCombinations asks each choice of right and wrong of all places; at most of so many wrong ones at once.
func allCombinations(t *testing.T, form string, most int, places []place) {
	t.Helper()
	c := mustOf(t, some)
	pieces := strings.Split(form, "@")
	texts := make([]string, len(pieces)-1)
	asked := 0
	var choose func(i, wrong int, first api.Errno)
	choose = func(i, wrong int, first api.Errno) {
		if i == len(places) {
			asked++
			var b strings.Builder
			for j, piece := range pieces {
				b.WriteString(piece)
				if j < len(texts) {
					b.WriteString(texts[j])
				}
			}
			s := parsed(t, b.String())
			if _, e := Bind(c, s); e != first {
				t.Errorf("Bind of %q: %v, want %v", b.String(), e, first)
			}
			if _, e := Slots(c, s); e != first {
				t.Errorf("Slots of %q: %v, want %v", b.String(), e, first)
			}
			return
		}
		p := places[i]
		before := texts[p.at]
		texts[p.at] = before + p.right
		choose(i+1, wrong, first)
		for _, f := range p.wrong {
			if wrong == most {
				break
			}
			texts[p.at] = before + f.text
			e := first
			if e == api.OK {
				e = f.err
			}
			choose(i+1, wrong+1, e)
		}
		texts[p.at] = before
	}
	choose(0, 0, api.OK)
	if asked < 50 {
		t.Errorf("only %d combinations", asked)
	}
}

var conditions = []fault{{"zz = 1", api.ErrName}, {"count ( zz ) = 1", api.ErrGroup}, {"1", api.ErrType}, {"1 + true = zz", api.ErrType}, {"zz = 1 + true", api.ErrName}}

func TestOrderOfErrorsOfSelect(t *testing.T) {
	long := " , 1" + strings.Repeat(" , 1", 20)
	allCombinations(t, "select @ from @ join @ on @ join @ on @ where @ group by @ order by @", 3, []place{
		{1, "t", []fault{{"u", api.ErrName}}},
		{2, "wide as w", []fault{{"u as t", api.ErrName}, {"wide as t", api.ErrTwice}}},
		{4, "s", []fault{{"u", api.ErrName}, {"s as t", api.ErrTwice}}},
		{3, "true", append(conditions, fault{"d = 1", api.ErrName})},
		{5, "true", append(conditions, fault{"a = 1", api.ErrTwice})},
		{6, "true", append(conditions, fault{"a = 1", api.ErrTwice})},
		{7, "b", []fault{{"zz", api.ErrName}, {"b , zz", api.ErrName}, {"b , b", api.ErrTwice}, {"b , b , zz", api.ErrName}, {"a", api.ErrTwice}}},
		{0, "b", []fault{{"zz", api.ErrName}, {"e", api.ErrGroup}, {"count ( count ( zz ) )", api.ErrGroup}, {"b + e", api.ErrGroup}, {"b + 1", api.ErrType}, {"a", api.ErrTwice}, {"*", api.ErrGroup}}},
		{0, " , max ( e )", []fault{{" , zz", api.ErrName}, {" , sum ( b )", api.ErrType}}},
		{8, "b", []fault{{"zz", api.ErrName}, {"e", api.ErrGroup}, {"sum ( b )", api.ErrType}, {"min ( sum ( b ) )", api.ErrGroup}}},
		{8, " , 1", []fault{{" , zz", api.ErrName}, {" , 1 + true", api.ErrType}}},
	})
	// 65 items are told behind all else
	allCombinations(t, "select @ from @ join s on @ where @ order by @", 6, []place{
		{1, "wide", []fault{{"u", api.ErrName}, {"s", api.ErrTwice}}},
		{2, "true", conditions},
		{3, "true", conditions},
		{0, "k1", []fault{{"zz", api.ErrName}}},
		{0, " , k2", []fault{{" , k2 + true", api.ErrType}}},
		{4, "k1", []fault{{"zz", api.ErrName}, {"k1 + true", api.ErrType}}},
		{0, "", []fault{{" , * , * , *" + long, api.ErrLong}, {" , * , * , * , *" + long, api.ErrLong}}},
	})
}

func TestOrderOfErrorsOfInsert(t *testing.T) {
	one := []fault{{"zz", api.ErrName}, {"count ( zz )", api.ErrGroup}, {"'x'", api.ErrType}, {"zz + true", api.ErrName}, {"1 + true", api.ErrType}}
	two := []fault{{"zz", api.ErrName}, {"count ( zz )", api.ErrGroup}, {"1", api.ErrType}}
	allCombinations(t, "insert into @ ( @ ) values ( @ ) , ( @ )", 4, []place{
		{0, "t", []fault{{"u", api.ErrName}}},
		{1, "a , b", []fault{{"a , zz", api.ErrName}, {"zz , b", api.ErrName}, {"a , a , zz", api.ErrName}, {"a , a", api.ErrTwice}, {"b , b", api.ErrTwice}}},
		{2, "1", one},
		{2, " , 'x'", []fault{{" , zz", api.ErrName}, {" , 1", api.ErrType}}},
		{3, "1", one},
		{3, " , 'x'", []fault{{" , zz", api.ErrName}, {" , 1", api.ErrType}}},
	})
	// whether there are as many as names is asked row by row, ahead of what they are
	for _, first := range two {
		for _, second := range two {
			refuses(t, api.ErrCount, "insert into t ( b ) values ( "+first.text+" , "+second.text+" )", "insert into t values ( "+first.text+" )",
				"insert into t ( b ) values ( 'x' ) , ( "+first.text+" , 1 ) , ( "+second.text+" )")
			refuses(t, first.err, "insert into t ( b ) values ( "+first.text+" ) , ( "+second.text+" , 1 )", "insert into t ( b ) values ( "+first.text+" ) , ( 1 , 2 )")
		}
		refuses(t, api.ErrName, "insert into t ( zz ) values ( "+first.text+" , 1 )", "insert into u ( b ) values ( "+first.text+" , 1 )")
		refuses(t, api.ErrTwice, "insert into t ( a , a ) values ( "+first.text+" )")
	}
}

func TestOrderOfErrorsOfUpdate(t *testing.T) {
	allCombinations(t, "update @ set @ = @ , @ = @ , @ = @ where @", 4, []place{
		{0, "t", []fault{{"u", api.ErrName}}},
		{1, "a", []fault{{"zz", api.ErrName}}},
		{2, "null", []fault{{"zz", api.ErrName}, {"min ( zz )", api.ErrGroup}, {"1 = 1", api.ErrType}, {"1 + true", api.ErrType}}},
		{3, "b", []fault{{"zz", api.ErrName}}},
		{4, "'x'", []fault{{"zz", api.ErrName}, {"min ( zz )", api.ErrGroup}, {"1", api.ErrType}}},
		{5, "c", []fault{{"zz", api.ErrName}}},
		{6, "true", []fault{{"zz", api.ErrName}, {"min ( zz )", api.ErrGroup}, {"1", api.ErrType}}},
		{7, "true", conditions},
	})
	// one that was set ahead is told ahead of its expression, and behind the ones ahead of it
	for _, x := range []fault{{"zz", api.ErrName}, {"min ( zz )", api.ErrGroup}, {"'x'", api.ErrType}} {
		refuses(t, api.ErrTwice, "update t set a = 1 , a = "+x.text+" , zz = 1 where zz = 1", "update t set a = 1 , c = true , a = "+x.text+" , b = 1")
		refuses(t, x.err, "update t set a = "+x.text+" , a = 1", "update t set c = true , a = "+x.text+" , c = true", "update t set a = "+x.text+" , zz = 1")
	}
	refuses(t, api.ErrName, "update t set zz = 1 , zz = 1", "update t set zz = 1 , a = 1 , a = 1")
}

func TestOrderOfErrorsOfDelete(t *testing.T) {
	for _, x := range conditions {
		refuses(t, api.ErrName, "delete from u where "+x.text)
		refuses(t, x.err, "delete from t where "+x.text)
	}
}

// TestOrderInExpressions: the Args from left to right, each wholly, then the expression itself; but of an aggregate ErrGroup comes ahead of its Args.
func TestOrderInExpressions(t *testing.T) {
	faults := []fault{{"zz", api.ErrName}, {"t.zz", api.ErrName}, {"( 1 + true )", api.ErrType}, {"( zz + true )", api.ErrName}, {"( 1 + true + zz )", api.ErrType}, {"k1", api.ErrTwice},
		{"x.k2", api.ErrGroup}, {"( x.k2 + true )", api.ErrGroup}, {"count ( sum ( zz ) )", api.ErrGroup}, {"max ( zz )", api.ErrName}, {"sum ( k11 = zz )", api.ErrTwice}, {"sum ( x.k11 )", api.ErrType}, {"( not sum ( x.k1 ) )", api.ErrType}, {"sum ( x.k11 || zz )", api.ErrName}}
	from := " from wide as x join wide as y on true group by x.k1"
	for _, one := range faults {
		for _, op := range []string{"+", "-", "*", "/", "%", "||", "=", "<>", "<", "<=", ">", ">=", "and", "or"} {
			for _, two := range append(faults, fault{"1", 0}, fault{"null", 0}, fault{"'x'", 0}) {
				refuses(t, one.err, "select "+one.text+" "+op+" "+two.text+from)
			}
			for _, right := range []string{"x.k1", "'x'", "true", "null", "sum ( x.k2 )"} {
				refuses(t, one.err, "select "+right+" "+op+" "+one.text+from)
			}
		}
		refuses(t, one.err, "select "+one.text+" is null"+from, "select not "+one.text+from, "select - "+one.text+from, "select ( "+one.text+" is not null ) + 1 "+from)
		if !strings.Contains(one.text, "x.k2") && !strings.Contains(one.text, "count") && !strings.Contains(one.text, "sum") && !strings.Contains(one.text, "max") {
			for _, op := range []string{"count", "sum", "min", "max"} {
				refuses(t, one.err, "select "+op+" ( "+one.text+" )"+from)
			}
		}
	}
	refuses(t, api.ErrType, "select 1 + true"+from, "select ( not 1 ) = zz"+from)
	goes(t, "select count ( x.k2 ) + x.k1"+from, "select sum ( x.k2 ) , x.k1 + 1"+from)
}
