package check

import (
	"strings"
	"testing"

	"stagepost/api"
)

// These are the tests of P16.1, of SELECT.

func TestSources(t *testing.T) {
	bindSo(t, api.Select, "",
		asked{"select 1 from t", "items 1:i; from t"},
		asked{"select 1 from t as t", "items 1:i; from t as t"},
		asked{"select 1 from t join s on true", "items 1:i; from t, s on true:b"},
		asked{"select 1 from t join t as x on true", "items 1:i; from t, t as x on true:b"},
		asked{"select 1 from t as x join t on true join t as y on false", "items 1:i; from t as x, t on true:b, t as y on false:b"},
		// An As may be the name of another table, or of the one that has another name itself.
		asked{"select s.b from t as s", "items s.b#1:t as b; from t as s"},
		asked{"select s.b , t.d from t as s join s as t on true", "items s.b#1:t as b, t.d#3:i as d; from t as s, s as t on true:b"},
	)
	refuses(t, api.ErrName, "select 1 from u", "select 1 from x", "select 1 from t join u on true", "select 1 from u as t", "select 1 from t as x join x on true", "select 1 from i")
	refuses(t, api.ErrTwice, "select 1 from t join t on true", "select 1 from t as x join t as x on true", "select 1 from t join s as t on true", "select 1 from t as s join s on true",
		"select 1 from t as x join s on true join t as x on true", "select 1 from t join s on true join wide on true join s on true")
}

// TestSlots: each source's slots lie behind those of the ones ahead.
func TestSlotsOfSources(t *testing.T) {
	bindSo(t, api.Select, "",
		asked{"select b , d , k12 from t join s on true join wide on true", "items b#1:t as b, d#3:i as d, k12#17:b as k12; from t, s on true:b, wide on true:b"},
		asked{"select b , d , k12 from wide join s on true join t on true", "items b#16:t as b, d#12:i as d, k12#11:b as k12; from wide, s on true:b, t on true:b"},
		asked{"select x.k1 , y.k1 , z.k1 , wide.k1 from wide as x join wide as y on true join wide as z on true join wide on true",
			"items x.k1#0:i as k1, y.k1#12:i as k1, z.k1#24:i as k1, wide.k1#36:i as k1; from wide as x, wide as y on true:b, wide as z on true:b, wide on true:b"},
	)
}

func TestColumns(t *testing.T) {
	bindSo(t, api.Select, "",
		asked{"select t.a , s.a , e , t.c from t join s on true", "items t.a#0:i as a, s.a#4:i as a, e#5:b as e, t.c#2:b as c; from t, s on true:b"},
		asked{"select y.a from t as x join t as y on true", "items y.a#3:i as a; from t as x, t as y on true:b"},
	)
	refuses(t, api.ErrTwice, "select a from t join s on true", "select b from t as x join t as y on true", "select 1 from t join s on true where a = 1", "select 1 from t join s on a = 1")
	refuses(t, api.ErrName, "select d from t", "select t.d from t", "select t.a from t as x", "select s.a from t", "select u.a from t", "select x.k1 from t as x join wide on true",
		"select a from wide", "select t.a from s as x join wide on true", "select s.b from t join s on true", "select i.a from t", "select int1 from t")
}

// TestOn: to it are visible the sources up to its own.
func TestOn(t *testing.T) {
	bindSo(t, api.Select, "",
		asked{"select 1 from t join s on b = 'x' and d = 1", "items 1:i; from t, s on and(eq(b#1:t 'x':t):b eq(d#3:i 1:i):b):b"},
		asked{"select 1 from t join wide on t.a = k1 join s on t.a = s.a and k12", "items 1:i; from t, wide on eq(t.a#0:i k1#3:i):b, s on and(eq(t.a#0:i s.a#16:i):b k12#14:b):b"},
		// a says one thing, as long as s is not visible
		asked{"select 1 from t join wide on a = 1 join s on e", "items 1:i; from t, wide on eq(a#0:i 1:i):b, s on e#17:b"},
	)
	refuses(t, api.ErrName, "select 1 from t join wide on d = 1 join s on true", "select 1 from t join wide on s.a = 1 join s on true", "select 1 from t join s as x on k1 = 1 join wide on true")
	refuses(t, api.ErrTwice, "select 1 from t join wide on a = 1 join s on a = 1")
}

// TestConditions are of each kind, at each place where one stands.
func TestConditions(t *testing.T) {
	at := []string{"select 1 from t where @", "select 1 from wide join t on @", "select 1 from wide join t on true join wide as x on @ ", "update t set b = '' where @", "delete from t where @"}
	for _, text := range at {
		for _, good := range []string{"c", "true", "null", "null and null", "not null", "a = 1", "b is null", "c or false", "( a + 1 ) * 2 > a", "null = null"} {
			goes(t, strings.ReplaceAll(text, "@", good))
		}
		for _, bad := range []string{"b", "1", "'x'", "b || 'x'", "1 + 2", "null + null", "null || null", "- null"} {
			refuses(t, api.ErrType, strings.ReplaceAll(text, "@", bad))
		}
		for _, bad := range []string{"count ( * )", "count ( b ) = 1", "sum ( 1 ) = 1", "not min ( c )", "true and max ( c )", "max ( f ) = 1", "1 = 2 or min ( 1 + true )"} {
			refuses(t, api.ErrGroup, strings.ReplaceAll(text, "@", bad))
		}
		refuses(t, api.ErrName, strings.ReplaceAll(text, "@", "f"), strings.ReplaceAll(text, "@", "y.c"), strings.ReplaceAll(text, "@", "f + 1"), strings.ReplaceAll(text, "@", "c and f = 1"))
	}
	bindSo(t, api.Select, "",
		asked{"select 1 from t where null", "items 1:i; from t; where null:n"},
		asked{"select 1 from t where c", "items 1:i; from t; where c#2:b"},
		asked{"select 1 from t where null and null", "items 1:i; from t; where and(null:n null:n):b"},
		asked{"select 1 from t join s on d = t.a where d = s.a", "items 1:i; from t, s on eq(d#3:i t.a#0:i):b; where eq(d#3:i s.a#4:i):b"},
	)
}

func TestGroup(t *testing.T) {
	bindSo(t, api.Select, "",
		asked{"select a from t group by a", "items a#0:i as a; from t; group a#0:i"},
		asked{"select b from t group by c , t.b", "items b#1:t as b; from t; group c#2:b, t.b#1:t"},
		asked{"select 1 from t join s on true group by t.a , s.a , e", "items 1:i; from t, s on true:b; group t.a#0:i, s.a#4:i, e#5:b"},
		// one column by two names
		asked{"select t.a , a from t group by a", "items t.a#0:i as a, a#0:i as a; from t; group a#0:i"},
		asked{"select a from t group by t.a order by t.a , a", "items a#0:i as a; from t; group t.a#0:i; order t.a#0:i, a#0:i"},
	)
	refuses(t, api.ErrTwice, "select 1 from t group by a , a", "select 1 from t group by a , t.a", "select 1 from t group by t.b , c , b", "select 1 from t join s on true group by a",
		"select 1 from t as x group by c , b , x.c")
	refuses(t, api.ErrName, "select 1 from t group by d", "select 1 from t group by a , s.a", "select 1 from t as x group by t.a", "select 1 from t group by a , a , d", "select a as d from t group by d")
}

// TestGroupedColumns: with a Group, or an aggregate somewhere, columns outside of aggregates are of the group.
func TestGroupedColumns(t *testing.T) {
	bindSo(t, api.Select, "",
		asked{"select a + 1 , sum ( a ) , count ( b ) from t group by a order by a , max ( c )",
			"items add(a#0:i 1:i):i, sum(a#0:i):i, count(b#1:t):i; from t; group a#0:i; order a#0:i, max(c#2:b):b"},
		asked{"select count ( * ) , min ( b ) from t", "items count*():i, min(b#1:t):t; from t"},
		asked{"select 1 from t order by sum ( a ) desc", "items 1:i; from t; order sum(a#0:i):i desc"},
		asked{"select 1 + count ( * ) * 2 from t order by min ( b ) || max ( b )", "items add(1:i mul(count*():i 2:i):i):i; from t; order join(min(b#1:t):t max(b#1:t):t):t"},
		asked{"select a , a = 1 from t order by b , c", "items a#0:i as a, eq(a#0:i 1:i):b; from t; order b#1:t, c#2:b"},
		asked{"select * from t group by c , a , b", "items t.a#0:i as a, t.b#1:t as b, t.c#2:b as c; from t; group c#2:b, a#0:i, b#1:t"},
		// Where and On are of rows, whatever is grouped
		asked{"select count ( * ) from t join s on t.a = s.a where b = 'x' group by c", "items count*():i; from t, s on eq(t.a#0:i s.a#4:i):b; where eq(b#1:t 'x':t):b; group c#2:b"},
	)
	refuses(t, api.ErrGroup,
		"select a from t group by b", "select a + 1 from t group by b", "select b from t group by b order by a", "select - a from t group by b", "select 1 from t group by b order by b , a",
		"select a , count ( * ) from t", "select count ( * ) , a from t", "select a from t order by count ( * )", "select count ( * ) from t order by a", "select sum ( a ) + a from t",
		"select 1 from t order by sum ( a ) , a", "select 1 from t order by a , sum ( a )", "select min ( a ) , b from t group by a", "select s.a from t join s on true group by t.a",
		"select * from t group by a , b", "select * , count ( * ) from t", "select count ( * ) , * from t", "select * from t order by min ( a )", "select * from t group by b",
		"select 1 , 2 , a = sum ( a ) from t", "select a is null from t order by 1 + ( 2 - max ( - a ) )")
}

func TestAggregates(t *testing.T) {
	bindSo(t, api.Select, "",
		asked{"select count ( * ) , count ( a ) , count ( b ) , count ( c ) , count ( null ) from t", "items count*():i, count(a#0:i):i, count(b#1:t):i, count(c#2:b):i, count(null:n):i; from t"},
		asked{"select sum ( a ) , sum ( null ) , sum ( - a ) from t", "items sum(a#0:i):i, sum(null:n):i, sum(neg(a#0:i):i):i; from t"},
		asked{"select min ( a ) , min ( b ) , min ( c ) , min ( null ) from t", "items min(a#0:i):i, min(b#1:t):t, min(c#2:b):b, min(null:n):n; from t"},
		asked{"select max ( a ) , max ( b ) , max ( c ) , max ( null ) from t", "items max(a#0:i):i, max(b#1:t):t, max(c#2:b):b, max(null:n):n; from t"},
		asked{"select max ( null ) + 1 , not min ( null ) , max ( null ) || min ( null ) from t", "items add(max(null:n):n 1:i):i, not(min(null:n):n):b, join(max(null:n):n min(null:n):n):t; from t"},
		asked{"select sum ( a ) as x , count ( * ) as y from t", "items sum(a#0:i):i as x, count*():i as y; from t"},
	)
	refuses(t, api.ErrType, "select sum ( b ) from t", "select sum ( c ) from t", "select sum ( a = 1 ) from t", "select sum ( 'x' ) from t", "select count ( a + b ) from t", "select min ( not a ) from t",
		"select min ( b ) + 1 from t", "select not count ( * ) from t", "select 1 from t order by sum ( b )")
	refuses(t, api.ErrName, "select sum ( d ) from t", "select count ( x.a ) from t", "select 1 from t order by max ( d )")
	for _, one := range []string{"count ( * )", "count ( a )", "sum ( a )", "min ( b )", "max ( c )", "sum ( d )", "sum ( b )"} {
		for _, two := range []string{"count ( @ )", "sum ( @ )", "min ( @ )", "max ( 1 + @ )", "count ( 1 = 2 or @ )"} {
			within := strings.ReplaceAll(two, "@", one)
			refuses(t, api.ErrGroup, "select "+within+" from t", "select 1 from t order by "+within, "select a from t group by a order by a , "+within, "select 1 from t where "+within+" = 1")
		}
	}
}

func TestItems(t *testing.T) {
	bindSo(t, api.Select, "",
		asked{"select a , a as x , t.a , t.a as x , ( b ) from t", "items a#0:i as a, a#0:i as x, t.a#0:i as a, t.a#0:i as x, b#1:t as b; from t"},
		asked{"select a + 1 , 1 , null , 'x' as y , - a as z , a is null from t", "items add(a#0:i 1:i):i, 1:i, null:n, 'x':t as y, neg(a#0:i):i as z, isnull(a#0:i):b; from t"},
		asked{"select a as b , b as a from t order by a , b", "items a#0:i as b, b#1:t as a; from t; order a#0:i, b#1:t"},
	)
	refuses(t, api.ErrName, "select a as x from t order by x", "select a as x from t where x = 1", "select a as x , x + 1 from t")
}

func TestAll(t *testing.T) {
	ofT, ofS := "t.a#0:i as a, t.b#1:t as b, t.c#2:b as c", "s.d#3:i as d, s.a#4:i as a, s.e#5:b as e"
	bindSo(t, api.Select, "",
		asked{"select * from t", "items " + ofT + "; from t"},
		asked{"select * , * from t", "items " + ofT + ", " + ofT + "; from t"},
		asked{"select 1 , * , a from t", "items 1:i, " + ofT + ", a#0:i as a; from t"},
		asked{"select * from t join s on true", "items " + ofT + ", " + ofS + "; from t, s on true:b"},
		asked{"select * , d as x from t join s on true limit 3", "items " + ofT + ", " + ofS + ", d#3:i as x; from t, s on true:b"},
		asked{"select * from t as x", "items " + strings.ReplaceAll(ofT, "t.", "x.") + "; from t as x"},
		asked{"select * from t as s join s as t on true order by s.a", "items s.a#0:i as a, s.b#1:t as b, s.c#2:b as c, t.d#3:i as d, t.a#4:i as a, t.e#5:b as e; from t as s, s as t on true:b; order s.a#0:i"},
	)
}

// TestManyItems: 64 at most, when all are there.
func TestManyItems(t *testing.T) {
	four := " from wide join wide as x on true join wide as y on true join wide as z on true" // 48 slots
	stars := func(n int) string { return strings.Repeat("* , ", n) }
	ones := func(n int) string { return strings.Repeat(", 1 ", n) }
	for _, c := range []struct {
		text string
		n    int
	}{
		{"select *" + four, 48}, {"select * " + ones(15) + four, 63}, {"select * " + ones(16) + four, 64}, {"select * " + ones(17) + four, 65}, {"select * , *" + four, 96},
		{"select " + stars(20) + "*" + " from t", 63}, {"select " + stars(20) + "*" + ones(1) + " from t", 64}, {"select " + stars(20) + "*" + ones(2) + " from t", 65},
		{"select " + stars(21) + "*" + " from t", 66}, {"select 1" + ones(31) + " from t", 32}, {"select " + stars(31) + "*" + four, 1536},
		{"select 1 " + ones(15) + ", * " + four, 64}, {"select 1 " + ones(16) + ", * " + four, 65},
	} {
		b, e := Bind(mustOf(t, some), parsed(t, c.text))
		if c.n > 64 {
			refuses(t, api.ErrLong, c.text)
		} else if len(b.Items) != c.n || e != api.OK {
			t.Errorf("%q: %d items, %v; want %d", short(c.text), len(b.Items), e, c.n)
		}
	}
}

func TestLimitStays(t *testing.T) {
	for text, want := range map[string]int{"select a from t": -1, "select a from t limit 0": 0, "select a from t limit 7": 7, "select a from t limit 1073741824": 1 << 30} {
		if b, e := Bind(mustOf(t, some), parsed(t, text)); b.Limit != want || e != api.OK {
			t.Errorf("%q: the limit is %d, %v", text, b.Limit, e)
		}
	}
}

func TestOrder(t *testing.T) {
	bindSo(t, api.Select, "",
		asked{"select 1 from t order by a , b desc , a = 1 , c asc", "items 1:i; from t; order a#0:i, b#1:t desc, eq(a#0:i 1:i):b, c#2:b"},
		asked{"select 1 from t join s on true order by s.a desc , 1 , null", "items 1:i; from t, s on true:b; order s.a#4:i desc, 1:i, null:n"},
	)
	refuses(t, api.ErrName, "select 1 from t order by d", "select 1 from t order by a , x.a")
	refuses(t, api.ErrTwice, "select 1 from t join s on true order by a")
	refuses(t, api.ErrType, "select 1 from t order by a + b", "select 1 from t order by a , not b")
}
