package parser

import (
	"testing"

	"stagepost/api"
)

func TestInsert(t *testing.T) {
	readsSo(t, "insert into t values ( 1 )", api.Stmt{Kind: api.Insert, Name: "t", Rows: [][]api.Expr{{num(1)}}})
	readsSo(t, "insert into t ( a ) values ( 1 )", api.Stmt{Kind: api.Insert, Name: "t", Names: names("a"), Rows: [][]api.Expr{{num(1)}}})
	readsSo(t, "insert into t ( a , b ) values ( 1 , 'x' ) , ( - 2 , null )", api.Stmt{Kind: api.Insert, Name: "t", Names: names("a", "b"), Rows: [][]api.Expr{{num(1), text("x")}, {num(-2), null()}}})
	readsSo(t, "insert into t ( b , a , b ) values ( a + 1 , not b ) , ( true ) , ( ( a or b ) and c , false , 1 , 2 )", api.Stmt{Kind: api.Insert, Name: "t", Names: names("b", "a", "b"), Rows: [][]api.Expr{
		{do(api.OpAdd, a(), num(1)), do(api.OpNot, b())}, {yes()}, {do(api.OpAnd, do(api.OpOr, a(), b()), c()), no(), num(1), num(2)},
	}})
	reads(t, "insert into t values ((1))", api.Stmt{Kind: api.Insert, Name: "t", Rows: [][]api.Expr{{num(1)}}})
	for _, s := range []string{
		"insert ^t values ( 1 )", "insert into ^values ( 1 )", "insert into ^( a ) values ( 1 )", "insert into ^'t' values ( 1 )", "insert into t ^a values ( 1 )", "insert into t ( ^) values ( 1 )", "insert into t ( ^1 ) values ( 1 )",
		"insert into t ( a ^b ) values ( 1 )", "insert into t ( a , ^) values ( 1 )", "insert into t ( a ^. b ) values ( 1 )", "insert into t ( a ) ^( 1 )", "insert into t ( a ) ^( b ) values ( 1 )", "insert into t ( ^( a ) ) values ( 1 )",
		"insert into t values ^1", "insert into t values ( ^)", "insert into t values ( 1 ^2 )", "insert into t values ( 1 , ^)", "insert into t values ( 1 ) ^( 2 )", "insert into t values ( 1 ) , ^2", "insert into t values ( 1 ) , ^;",
		"insert into t values ( ^* )", "insert into t values ( 1 ^as a )", "insert into t values ( 1 ^; )", "insert into t values ( 1 ) ^where a", "insert into t ^. a values ( 1 )", "insert into t ^as x values ( 1 )", "insert into t ^select a from t", "^into t values ( 1 )",
	} {
		faultsAt(t, api.ErrSyntax, s)
	}
}

func TestUpdate(t *testing.T) {
	readsSo(t, "update t set a = 1", api.Stmt{Kind: api.Update, Name: "t", Sets: []api.Assign{{Name: "a", Expr: num(1)}}})
	readsSo(t, "update t set a = b , b = a , a = null where c", api.Stmt{Kind: api.Update, Name: "t", Where: c(), Sets: []api.Assign{{Name: "a", Expr: b()}, {Name: "b", Expr: a()}, {Name: "a", Expr: null()}}})
	// The first = belongs to the assignment, one behind it to the expression.
	readsSo(t, "update t set a = b = c", api.Stmt{Kind: api.Update, Name: "t", Sets: []api.Assign{{Name: "a", Expr: do(api.OpEq, b(), c())}}})
	readsSo(t, "update t set a = a - ( b - 1 ) , b = b where a is not null", api.Stmt{Kind: api.Update, Name: "t", Where: do(api.OpNotNull, a()), Sets: []api.Assign{
		{Name: "a", Expr: do(api.OpSub, a(), do(api.OpSub, b(), num(1)))}, {Name: "b", Expr: b()},
	}})
	for _, s := range []string{
		"update ^set a = 1", "update t ^a = 1", "update ^1 set a = 1", "update t ^as x set a = 1", "update t set ^where a", "update t set ^1 = 1", "update t set a ^1", "update t set a ^. b = 1", "update t set t ^. a = 1", "update t set a = ^", "update t set a = ^where a", "update t set a = b = c ^= a",
		"update t set a = 1 , ^where a", "update t set a = 1 ^b = 2", "update t set a = 1 where ^;", "update t set a = 1 where a ^, b = 2", "update t set a ^< 1", "update t set a = ^= 1", "update t set ^( a ) = 1", "update t set a = 1 ^order by a", "update t set a = 1 ^limit 1",
	} {
		faultsAt(t, api.ErrSyntax, s)
	}
}

func TestDelete(t *testing.T) {
	readsSo(t, "delete from t", api.Stmt{Kind: api.Delete, Name: "t"})
	readsSo(t, "delete from t where a or b", api.Stmt{Kind: api.Delete, Name: "t", Where: do(api.OpOr, a(), b())})
	for _, s := range []string{"delete ^t", "delete from ^", "delete from ^where a", "delete from ^1", "delete from t ^as x", "delete from t ^, u", "delete from t where ^", "delete from t where ^;", "delete from t where a ^b", "delete from t ^group by a", "delete ^* from t", "delete from t ^limit 1", "delete from t ^order by a"} {
		faultsAt(t, api.ErrSyntax, s)
	}
}

func TestCreateTable(t *testing.T) {
	readsSo(t, "create table t ( a int , primary key ( a ) )", api.Stmt{Kind: api.CreateTable, Name: "t", Columns: []api.Column{{Name: "a", Kind: api.Int}}, Key: names("a")})
	readsSo(t, "create table t ( a int not null , b text , c bool not null , d bool , e text not null , primary key ( b , a , b ) )", api.Stmt{Kind: api.CreateTable, Name: "t", Columns: []api.Column{
		{Name: "a", Kind: api.Int, NotNull: true}, {Name: "b", Kind: api.Text}, {Name: "c", Kind: api.Bool, NotNull: true}, {Name: "d", Kind: api.Bool}, {Name: "e", Kind: api.Text, NotNull: true},
	}, Key: names("b", "a", "b")})
	readsSo(t, "create table t ( a int , a text , primary key ( x ) )", api.Stmt{Kind: api.CreateTable, Name: "t", Columns: []api.Column{{Name: "a", Kind: api.Int}, {Name: "a", Kind: api.Text}}, Key: names("x")})
	for _, s := range []string{
		"create table ^( a int , primary key ( a ) )", "create table t ^a int", "create table t ( ^)", "create table t ( ^primary key ( a ) )", "create table t ( a ^, primary key ( a ) )", "create table t ( a ^null , primary key ( a ) )", "create table t ( a ^integer , primary key ( a ) )", "create table t ( a ^'int' , primary key ( a ) )", "create table t ( ^int a , primary key ( a ) )", "create table t ( ^1 int , primary key ( a ) )",
		"create table t ( a int ^)", "create table t ( a int ^null , primary key ( a ) )", "create table t ( a int not ^, primary key ( a ) )", "create table t ( a int not null ^not null , primary key ( a ) )", "create table t ( a int ^primary key ( a ) )", "create table t ( a int ^int , primary key ( a ) )", "create table t ( a int , ^)", "create table t ( a int , ^, b int )",
		"create table t ( a int , primary ^( a ) )", "create table t ( a int , ^key ( a ) )", "create table t ( a int , primary key ^a )", "create table t ( a int , primary key ( ^) )", "create table t ( a int , primary key ( ^1 ) )", "create table t ( a int , primary key ( a ^b ) )", "create table t ( a int , primary key ( a , ^) )", "create table t ( a int , primary key ( a ) ^, b int )", "create table t ( a int , primary key ( a ) ^, primary key ( a ) )", "create table t ( a int , primary key ( a )^",
		"create table t ( a int , primary key ( a ) ) ^)", "create table t ( a int , primary key ( a ^. b ) )", "create ^t", "create unique ^table t ( a int , primary key ( a ) )", "create ^", "create ^select",
	} {
		faultsAt(t, api.ErrSyntax, s)
	}
}

func TestCreateIndex(t *testing.T) {
	readsSo(t, "create index i on t ( a )", api.Stmt{Kind: api.CreateIndex, Name: "i", Table: "t", Names: names("a")})
	readsSo(t, "create unique index t on i ( b , a , b )", api.Stmt{Kind: api.CreateIndex, Name: "t", Table: "i", Unique: true, Names: names("b", "a", "b")})
	for _, s := range []string{
		"create unique ^unique index i on t ( a )", "create unique ^i on t ( a )", "create index ^on t ( a )", "create index ^unique i on t ( a )", "create index i ^t ( a )", "create index i on ^( a )", "create index i on t ^a", "create index i on t ( ^)", "create index i on t ( a ^b )", "create index i on t ( a , ^)", "create index i on t ( ^1 )", "create index i on t ( a ^desc )", "create index i on t ( a ^. b )", "create index i on t ( a ) ^where a", "create index i on t ( a^", "create index i on ^on ( a )", "create index i on t ( ^( a ) )",
	} {
		faultsAt(t, api.ErrSyntax, s)
	}
}

func TestOthers(t *testing.T) {
	readsSo(t, "begin", api.Stmt{Kind: api.Begin})
	readsSo(t, "commit", api.Stmt{Kind: api.Commit})
	readsSo(t, "rollback", api.Stmt{Kind: api.Rollback})
	readsSo(t, "rollback to s", api.Stmt{Kind: api.RollbackTo, Name: "s"})
	readsSo(t, "savepoint s", api.Stmt{Kind: api.Savepoint, Name: "s"})
	for _, s := range []string{
		"begin ^begin", "begin ^t", "begin ^1", "commit ^to s", "commit ^commit", "rollback ^s", "rollback to ^", "rollback to ^to", "rollback to ^1", "rollback to ^'s'", "rollback to s ^s", "rollback to s ^, t", "rollback ^rollback", "rollback to ^savepoint s",
		"savepoint ^", "savepoint ^to s", "savepoint ^1", "savepoint ^'s'", "savepoint s ^s", "savepoint ^savepoint", "savepoint ^;", "rollback to ^;",
	} {
		faultsAt(t, api.ErrSyntax, s)
	}
}

// TestOneSemicolonOrNone stands behind a statement, and none ahead of it.
func TestOneSemicolonOrNone(t *testing.T) {
	for _, s := range full() {
		s = trimmed(s)
		want := mustParse(t, s)
		reads(t, s+";", want)
		reads(t, s+" ; ", want)
		faults(t, api.ErrSyntax, len(s)+1, s+";;")
		faults(t, api.ErrSyntax, len(s)+3, s+" ; ;")
		faults(t, api.ErrSyntax, 0, ";"+s)
		faults(t, api.ErrSyntax, len(s)+1, s+";"+s)
	}
	faults(t, api.ErrSyntax, 0, ";")
	faults(t, api.ErrSyntax, 1, " ;")
	faults(t, api.ErrSyntax, 0, ";;")
}

// TestTheFirstToken of a statement is one of nine words.
func TestTheFirstToken(t *testing.T) {
	faults(t, api.ErrSyntax, 0, "")
	faults(t, api.ErrSyntax, 3, " \n\t")
	for _, s := range pieces() {
		_, f := Parse(s)
		switch s {
		case "begin", "commit", "rollback":
			reads(t, s, mustParse(t, s))
		case "select", "insert", "update", "delete", "create", "savepoint":
			faults(t, api.ErrSyntax, len(s), s)
			faults(t, api.ErrSyntax, len(s)+1, s+" ")
		default:
			faults(t, api.ErrSyntax, 0, s)
			faults(t, api.ErrSyntax, 2, "  "+s+" a b c")
		}
		if f.Err != api.OK && f.Err != api.ErrSyntax {
			t.Errorf("Parse of %q: %v", s, f)
		}
	}
	faults(t, api.ErrSyntax, 0, "'begin'")
	faults(t, api.ErrSyntax, 0, "( select a from t )")
}

// TestNamesAreWordsThatAreNotReserved, at each place where a name may stand.
func TestNamesAreWordsThatAreNotReserved(t *testing.T) {
	places := []string{
		"select a as ^ from t", "select a from ^", "select a from t as ^", "select a from t join ^ on b", "select a from t join u as ^ on b", "select a from t group by t . ^", "insert into ^ values ( 1 )", "insert into t ( ^ ) values ( 1 )", "insert into t ( a , ^ ) values ( 1 )",
		"update ^ set a = 1", "update t set ^ = 1", "update t set a = 1 , ^ = 1", "delete from ^", "create table ^ ( a int , primary key ( a ) )", "create table t ( ^ int , primary key ( a ) )", "create table t ( a int , ^ int , primary key ( a ) )", "create table t ( a int , primary key ( ^ ) )",
		"create index ^ on t ( a )", "create index i on ^ ( a )", "create index i on t ( ^ )", "create index i on t ( a , ^ )", "rollback to ^", "savepoint ^", "select a . ^ from t",
	}
	for _, place := range places {
		at := indexOf(place)
		for _, s := range pieces() {
			said := place[:at] + s + place[at+1:]
			want := modelFault("parse", said)
			if _, f := Parse(said); f != want {
				t.Errorf("Parse of %q: %v; want %v", said, f, want)
			}
			switch {
			case s == "a" || s == "t" || s == "x":
				if want != (api.Fault{}) {
					t.Errorf("the model of %q: %v", said, want)
				}
			case s == "primary" && place == "create table t ( a int , ^ int , primary key ( a ) )": // it is the key's
				faults(t, api.ErrSyntax, at+8, said)
			default:
				faults(t, api.ErrSyntax, at, said)
			}
		}
		for _, name := range names("_", "selected", "inner", "a_1", "nnnnnnnnnnnnnnnnnnnnnnnnnnnnnnnn") {
			mustParse(t, place[:at]+name+place[at+1:])
		}
	}
}
