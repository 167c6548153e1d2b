package parser

import (
	"slices"
	"strings"
	"testing"

	"stagepost/api"
)

// limited is a list within a statement: what stands ahead of it, what it is of, what stands between two, how many there may be, what stands behind, and how many of it a statement has.
type limited struct {
	name, ahead, one, between string
	most                      int
	behind                    string
	count                     func(api.Stmt) int
}

func allLimited() []limited {
	return []limited{
		{"items", "select ", "a", ",", api.MaxItems, " from t", func(s api.Stmt) int { return len(s.Items) }},
		{"items", "select ", "*", " , ", api.MaxItems, " from t where b", func(s api.Stmt) int { return len(s.Items) }},
		{"items", "select ", "sum ( a + 1 ) as b", ",", api.MaxItems, " from t", func(s api.Stmt) int { return len(s.Items) }},
		{"columns of GROUP BY", "select a from t group by ", "t . b", ",", api.MaxItems, " order by a limit 1", func(s api.Stmt) int { return len(s.Group) }},
		{"orders", "select a from t order by ", "a", ",", api.MaxItems, " limit 1", func(s api.Stmt) int { return len(s.Order) }},
		{"orders", "select a from t group by a order by ", "( a or b ) desc", " , ", api.MaxItems, "", func(s api.Stmt) int { return len(s.Order) }},
		{"names of an INSERT", "insert into t (", "a", ",", api.MaxColumns, ") values (1)", func(s api.Stmt) int { return len(s.Names) }},
		{"a row", "insert into t values (", "1", ",", api.MaxColumns, ")", func(s api.Stmt) int { return len(s.Rows[0]) }},
		{"a second row", "insert into t ( a ) values ( 1 , 2 ) , ( ", "- ( a )", " , ", api.MaxColumns, " ) , ( 3 ) ;", func(s api.Stmt) int { return len(s.Rows[1]) }},
		{"rows", "insert into t values ", "(1)", ",", api.MaxRows, "", func(s api.Stmt) int { return len(s.Rows) }},
		{"rows", "insert into t ( a ) values ", "( 1 , ( 2 ) )", " , ", api.MaxRows, " ;", func(s api.Stmt) int { return len(s.Rows) }},
		{"assignments", "update t set ", "a = 1", ",", api.MaxColumns, "", func(s api.Stmt) int { return len(s.Sets) }},
		{"assignments", "update t set ", "a = b = c", " , ", api.MaxColumns, " where a", func(s api.Stmt) int { return len(s.Sets) }},
		{"columns", "create table t (", "a int", ",", api.MaxColumns, ", primary key (a))", func(s api.Stmt) int { return len(s.Columns) }},
		{"columns", "create table t ( ", "a bool not null", " , ", api.MaxColumns, " , primary key ( a , b ) )", func(s api.Stmt) int { return len(s.Columns) }},
		{"names of a key", "create table t ( a int , primary key ( ", "a", " , ", api.MaxKeys, " ) )", func(s api.Stmt) int { return len(s.Key) }},
		{"names of an index", "create index i on t (", "a", ",", api.MaxKeys, ")", func(s api.Stmt) int { return len(s.Names) }},
		{"names of an index", "create unique index i on t ( ", "b", " , ", api.MaxKeys, " ) ;", func(s api.Stmt) int { return len(s.Names) }},
	}
}

// of is the text of n of them, and what it stands ahead of.
func (l limited) of(n int) string {
	return l.ahead + strings.TrimSuffix(strings.Repeat(l.one+l.between, n), l.between)
}

// TestTheLimits are those that the chapter names.
func TestTheLimits(t *testing.T) {
	if l := []int{api.MaxDepth, api.MaxItems, api.MaxSources, api.MaxColumns, api.MaxKeys, api.MaxRows, api.MaxSeq, maxScript}; !slices.Equal(l, []int{40, 32, 4, 12, 4, 64, 1 << 30, 64}) {
		t.Errorf("the limits: %v", l)
	}
}

func TestListsAtTheirLimits(t *testing.T) {
	for _, l := range allLimited() {
		for n := 1; n <= l.most; n++ {
			s := mustParse(t, l.of(n)+l.behind)
			if l.count(s) != n {
				t.Errorf("%s: %d are read as %d", l.name, n, l.count(s))
			}
			told, e := Print(s)
			if e != api.OK || !equal(mustParse(t, told), s) {
				t.Errorf("%s: Print of %d: %q, %v", l.name, n, short(told), e)
			}
		}
	}
}

// TestOneTooMany is told at its first token, whatever that is and whatever stands behind.
func TestOneTooMany(t *testing.T) {
	for _, l := range allLimited() {
		ahead := l.of(l.most) + l.between
		at := len(ahead)
		faults(t, api.ErrLong, at, l.of(l.most+1)+l.behind)
		faults(t, api.ErrLong, at, l.of(l.most+1))
		faults(t, api.ErrLong, at, l.of(l.most+10)+l.behind)
		faults(t, api.ErrLong, at, ahead+l.one+" 9223372036854775808")
		for _, piece := range append(pieces(), strings.Repeat("( ", 41)) {
			if piece == "primary" && l.name == "columns" { // what may stand there is not one too many
				faults(t, api.ErrSyntax, at+8, ahead+"primary a")
				continue
			}
			faults(t, api.ErrLong, at, ahead+piece)
			faults(t, api.ErrLong, at+2, ahead+"\n "+piece+" a b c")
			noScript(t, api.ErrLong, at, ahead+piece)
			noScript(t, api.ErrLong, at+6, "begin;"+ahead+piece)
		}
	}
}

// TestOneTooManyWhereTheTextEnds: there is no token at which it could be told.
func TestOneTooManyWhereTheTextEnds(t *testing.T) {
	for _, l := range allLimited() {
		ahead := l.of(l.most) + l.between
		for _, blanks := range []string{"", " ", "\n\t "} {
			faults(t, api.ErrSyntax, len(ahead+blanks), ahead+blanks)
			noScript(t, api.ErrSyntax, len(ahead+blanks), ahead+blanks)
			noScript(t, api.ErrSyntax, len(ahead+blanks)+6, "begin;"+ahead+blanks)
		}
		// A comma behind fewer of them is no other case.
		ahead = l.of(l.most-1) + l.between
		if l.most > 1 {
			faults(t, api.ErrSyntax, len(ahead), ahead)
			faults(t, api.ErrSyntax, len(ahead), ahead+", a")
		}
	}
}

// TestSourcesAtTheirLimit: of them the first one more is told behind its JOIN.
func TestSourcesAtTheirLimit(t *testing.T) {
	join := " join u as v on a"
	for n := range 4 {
		s := mustParse(t, "select a from t"+strings.Repeat(join, n)+" where b")
		if len(s.From) != n+1 {
			t.Errorf("%d sources are read as %d", n+1, len(s.From))
		}
	}
	ahead := "select a from t" + strings.Repeat(join, 3) + " join "
	faults(t, api.ErrSyntax, len(ahead), ahead)
	faults(t, api.ErrSyntax, len(ahead)-1, strings.TrimSuffix(ahead, " "))
	faults(t, api.ErrLong, len(ahead), ahead+"u as v on a")
	faults(t, api.ErrLong, len(ahead), ahead+"u on a where b")
	for _, piece := range pieces() {
		faults(t, api.ErrLong, len(ahead), ahead+piece)
		noScript(t, api.ErrLong, len(ahead)+1, ";"+ahead+piece)
	}
	// Fewer, and one that is none.
	faultsAt(t, api.ErrSyntax, "select a from t"+strings.Repeat(join, 2)+" join ^where b")
}

// TestListsOfTheirOwn: what one list has says nothing of another one.
func TestListsOfTheirOwn(t *testing.T) {
	s := mustParse(t, "select "+times(32, "a")+" from t join t on a join t on a join t on a group by "+times(32, "a")+" order by "+times(32, "a desc")+" limit 1")
	if len(s.Items) != 32 || len(s.From) != 4 || len(s.Group) != 32 || len(s.Order) != 32 {
		t.Errorf("%d items, %d sources, %d, %d", len(s.Items), len(s.From), len(s.Group), len(s.Order))
	}
	s = mustParse(t, "insert into t ("+times(12, "a")+") values "+times(64, "("+times(12, "1")+")"))
	if len(s.Names) != 12 || len(s.Rows) != 64 || len(s.Rows[63]) != 12 {
		t.Errorf("%d names, %d rows", len(s.Names), len(s.Rows))
	}
	s = mustParse(t, "create table t ("+numbered(12, " text not null")+", primary key ("+times(4, "a")+"))")
	if len(s.Columns) != 12 || len(s.Key) != 4 || s.Columns[11].Name != "a12" {
		t.Errorf("%d columns, %d of the key", len(s.Columns), len(s.Key))
	}
	s = mustParse(t, "insert into t values ("+times(11, "1")+"),("+times(12, "1")+"),("+times(10, "1")+")")
	if len(s.Rows[0]) != 11 || len(s.Rows[1]) != 12 || len(s.Rows[2]) != 10 {
		t.Errorf("rows of %d, %d, %d", len(s.Rows[0]), len(s.Rows[1]), len(s.Rows[2]))
	}
}

// TestColumnsAndTheirKey: behind the greatest number of columns the key may come, and nothing else.
func TestColumnsAndTheirKey(t *testing.T) {
	ahead := "create table t ( " + times(12, "a int") + " , "
	mustParse(t, ahead+"primary key ( a ) )")
	faults(t, api.ErrSyntax, len(ahead)+7, ahead+"primary")
	faults(t, api.ErrLong, len(ahead), ahead+"b")
	faults(t, api.ErrLong, len(ahead), ahead+")")
	faults(t, api.ErrLong, len(ahead), ahead+"key ( a ) )")
	faults(t, api.ErrSyntax, len(ahead), ahead)
}
