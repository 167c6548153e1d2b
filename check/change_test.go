package check

import (
	"strings"
	"testing"

	"stagepost/api"
)

// These are the tests of P16.1, of INSERT, UPDATE, DELETE and the others.

func TestInsert(t *testing.T) {
	bindSo(t, api.Insert, "t",
		asked{"insert into t values ( 1 , 'x' , true )", "names a, b, c; rows 1:i 'x':t true:b"},
		asked{"insert into t ( a , b , c ) values ( 1 , 'x' , true )", "names a, b, c; rows 1:i 'x':t true:b"},
		asked{"insert into t ( c , a , b ) values ( true , 1 , 'x' )", "names a, b, c; rows 1:i 'x':t true:b"},
		asked{"insert into t ( b , c , a ) values ( 'x' , true , 1 )", "names a, b, c; rows 1:i 'x':t true:b"},
		asked{"insert into t ( c ) values ( false )", "names a, b, c; rows null:n null:n false:b"},
		asked{"insert into t ( c , b ) values ( false , 'y' ) , ( null , 'z' )", "names a, b, c; rows null:n 'y':t false:b, null:n 'z':t null:n"},
		asked{"insert into t values ( - 1 , 'x' || 'y' , 1 = 2 ) , ( 1 + 2 * 3 , '' , not null )", "names a, b, c; rows -1:i join('x':t 'y':t):t eq(1:i 2:i):b, add(1:i mul(2:i 3:i):i):i '':t not(null:n):b"},
		// a Null goes into each column, also into one that may have none
		asked{"insert into t values ( null , null , null )", "names a, b, c; rows null:n null:n null:n"},
		asked{"insert into t values ( null + 1 , null || null , null is null )", "names a, b, c; rows add(null:n 1:i):i join(null:n null:n):t isnull(null:n):b"},
	)
	bindSo(t, api.Insert, "s", asked{"insert into s ( e , d ) values ( true , 1 )", "names d, a, e; rows 1:i null:n true:b"})
	bindSo(t, api.Insert, "wide", asked{"insert into wide ( k12 , k1 ) values ( true , 1 )",
		"names k1, k2, k3, k4, k5, k6, k7, k8, k9, k10, k11, k12; rows 1:i null:n null:n null:n null:n null:n null:n null:n null:n null:n null:n true:b"})
}

func TestInsertRefused(t *testing.T) {
	refuses(t, api.ErrName, "insert into u values ( 1 )", "insert into i values ( 1 )", "insert into t ( d ) values ( 1 )", "insert into t ( a , d ) values ( 1 , 1 )", "insert into t ( a , b , c , d ) values ( 1 , 'x' , true , 1 )",
		"insert into t ( t ) values ( 1 )", "insert into t ( a , a , d ) values ( 1 , 1 , 1 )",
		// nothing is visible
		"insert into t values ( a , 'x' , true )", "insert into t values ( 1 , t.b , true )", "insert into t values ( 1 , 'x' , c )", "insert into t values ( 1 + a , 'x' , true )", "insert into s values ( d , d , e )")
	refuses(t, api.ErrTwice, "insert into t ( a , a ) values ( 1 , 1 )", "insert into t ( b , c , b ) values ( 'x' , true , 'x' )", "insert into t ( a , b , c , a ) values ( 1 , 'x' , true , 1 )")
	refuses(t, api.ErrCount, "insert into t values ( 1 )", "insert into t values ( 1 , 'x' )", "insert into t values ( 1 , 'x' , true , 1 )", "insert into t ( a ) values ( 1 , 2 )", "insert into t ( a , b ) values ( 1 )",
		"insert into t ( b , a ) values ( 'x' , 1 ) , ( 'y' )", "insert into t values ( 1 , 'x' , true ) , ( 1 , 'x' , true , 1 )", "insert into t ( a , b , c ) values ( 1 , 'x' )", "insert into wide values ( 1 , 2 , 3 , 4 , 5 , 6 , 7 , 8 , 9 , 10 , 'x' )")
	refuses(t, api.ErrType, "insert into t values ( 'x' , 'x' , true )", "insert into t values ( 1 , 1 , true )", "insert into t values ( 1 , 'x' , 1 )", "insert into t values ( true , 'x' , true )", "insert into t values ( 1 , true , true )",
		"insert into t values ( 1 , 'x' , 'x' )", "insert into t ( b , a ) values ( 1 , 'x' )", "insert into t ( b ) values ( null + null )", "insert into t ( a ) values ( 1 ) , ( null ) , ( null is null )", "insert into t ( a ) values ( 1 + true )")
	for _, one := range []string{"count ( * )", "count ( 1 )", "sum ( 1 )", "min ( 1 )", "max ( 1 )", "1 + max ( 1 )", "sum ( a )", "max ( 'x' )", "max ( 1 + true )"} {
		refuses(t, api.ErrGroup, "insert into t ( a ) values ( "+one+" )", "insert into t values ( 1 , 'x' , true ) , ( 1 , 'x' , "+one+" = 1 )")
	}
}

// TestManyRows: as many as there may be, each by itself.
func TestManyRows(t *testing.T) {
	rows := strings.Repeat("( 1 , 'x' , true ) , ", 63)
	goes(t, "insert into t values "+rows+"( 1 , 'x' , null )")
	refuses(t, api.ErrCount, "insert into t values "+rows+"( 1 , 'x' )")
	refuses(t, api.ErrType, "insert into t values "+rows+"( 1 , 'x' , 1 )")
}

func TestUpdate(t *testing.T) {
	bindSo(t, api.Update, "t",
		asked{"update t set a = 1", "sets a#0 = 1:i"},
		asked{"update t set c = a = 1 , a = t.a + 1 , b = b || 'x' where b > 'x' and t.c", "sets c#2 = eq(a#0:i 1:i):b, a#0 = add(t.a#0:i 1:i):i, b#1 = join(b#1:t 'x':t):t; where and(gt(b#1:t 'x':t):b t.c#2:b):b"},
		asked{"update t set c = null , b = null", "sets c#2 = null:n, b#1 = null:n"},
		asked{"update t set a = null * a where null", "sets a#0 = mul(null:n a#0:i):i; where null:n"},
	)
	bindSo(t, api.Update, "s", asked{"update s set e = d = a where e", "sets e#2 = eq(d#0:i a#1:i):b; where e#2:b"})
	bindSo(t, api.Update, "wide", asked{"update wide set k12 = k1 = k10", "sets k12#11 = eq(k1#0:i k10#9:i):b"})
	refuses(t, api.ErrName, "update u set a = 1", "update i set a = 1", "update t set d = 1", "update t set a = 1 , d = 1", "update t set t = 1", "update t set a = d", "update t set a = s.a", "update t set b = 'x' , a = 1 + d",
		"update t set a = 1 where d = 1", "update t set a = 1 where x.a = 1")
	refuses(t, api.ErrTwice, "update t set a = 1 , a = 1", "update t set a = 1 , b = 'x' , a = 2", "update t set b = 'x' , c = true , c = false , a = 1")
	refuses(t, api.ErrType, "update t set a = 'x'", "update t set a = b", "update t set b = a", "update t set c = 1", "update t set b = 'x' , a = true", "update t set a = null || null", "update t set a = a + b", "update t set a = 1 where a")
	for _, one := range []string{"count ( * )", "count ( a )", "sum ( a )", "min ( a )", "max ( a )", "a + max ( a )", "max ( d )", "max ( b )", "max ( a + b )"} {
		refuses(t, api.ErrGroup, "update t set a = "+one, "update t set b = 'x' , a = "+one+" , c = true", "update t set a = 1 where "+one+" = 1")
	}
}

func TestDelete(t *testing.T) {
	bindSo(t, api.Delete, "t", asked{"delete from t where a = 1 and t.b is null", "where and(eq(a#0:i 1:i):b isnull(t.b#1:t):b):b"})
	bindSo(t, api.Delete, "wide", asked{"delete from wide where k12", "where k12#11:b"})
	c := mustOf(t, some)
	if b, e := Bind(c, parsed(t, "delete from t")); !equal(b, api.Stmt{Kind: api.Delete, Name: "t"}) || e != api.OK {
		t.Errorf("without a Where: %+v, %v", b, e)
	}
	refuses(t, api.ErrName, "delete from u", "delete from j", "delete from t where d = 1", "delete from t where s.a = 1")
	refuses(t, api.ErrType, "delete from t where a", "delete from t where a = b")
	refuses(t, api.ErrGroup, "delete from t where count ( * ) = 1")
}

// TestTheOthersStay as they are, whatever there is.
func TestTheOthersStay(t *testing.T) {
	for _, text := range []string{"begin", "commit", "rollback", "savepoint s", "savepoint t", "rollback to s", "rollback to nothing"} {
		s := parsed(t, text)
		for _, c := range []api.Catalog{{}, mustOf(t, some)} {
			if b, e := Bind(c, s); !equal(b, s) || e != api.OK {
				t.Errorf("Bind of %q: %+v, %v", text, b, e)
			}
			if l, e := Slots(c, s); l != nil || e != api.OK {
				t.Errorf("Slots of %q: %v, %v", text, l, e)
			}
		}
	}
}

func TestWithoutTables(t *testing.T) {
	for _, text := range []string{"select 1 from t", "insert into t values ( 1 )", "update t set a = 1", "delete from t"} {
		refused(t, api.Catalog{}, parsed(t, text), api.ErrName)
	}
}
