package parser

import (
	"math/rand"
	"slices"
	"strings"
	"testing"

	"stagepost/api"
	"stagepost/lexer"
)

// These are the tests of P14.5.

// TestWhatIsToldIsRead: statements made by chance (always the same), told by the model with and without what says nothing, are read as they are, and told again the one way.
func TestWhatIsToldIsRead(t *testing.T) {
	m := newMaker(1)
	v := &vary{m.Rand}
	kinds := map[api.StmtKind]int{}
	for range 6000 {
		s := m.stmt()
		kinds[s.Kind]++
		told := tellStmt(s, nil).written(nil)
		readsSo(t, told, s)
		for range 2 {
			varied := tellStmt(s, v).written(v)
			got, f := Parse(varied)
			if f != (api.Fault{}) || !equal(got, s) {
				t.Fatalf("Parse of %q: %+v, %v; want %+v", short(varied), got, f, s)
			}
			prints(t, told, got)
		}
		if t.Failed() {
			return
		}
	}
	for k := api.Select; k <= api.RollbackTo; k++ {
		if kinds[k] < 100 {
			t.Errorf("%d statements alone are of the kind %d", kinds[k], k)
		}
	}
}

// TestExpressionsThatAreToldAreRead: the same of expressions, which the model of expressions reads, too.
func TestExpressionsThatAreToldAreRead(t *testing.T) {
	m := newMaker(2)
	v := &vary{m.Rand}
	for i := range 8000 {
		x := m.expr(i % 12)
		var w words
		tellExpr(&w, x, nil)
		told := w.written(nil)
		isSo(t, told, x)
		isOfTheModel(t, told)
		var more words
		tellExpr(&more, x, v)
		varied := more.written(v)
		is(t, varied, x)
		if t.Failed() {
			return
		}
	}
}

// smallExprs are all expressions of so many operations, of a few leaves.
func smallExprs(n int) []api.Expr {
	if n == 0 {
		return exprs(col("a"), num(5), num(-5))
	}
	var l []api.Expr
	for _, x := range smallExprs(n - 1) {
		for _, op := range []api.Op{api.OpNot, api.OpNeg, api.OpIsNull, api.OpNotNull, api.OpCount} {
			l = append(l, do(op, x))
		}
	}
	for left := range n {
		for _, x := range smallExprs(left) {
			for _, y := range smallExprs(n - 1 - left) {
				for _, op := range []api.Op{api.OpOr, api.OpAnd, api.OpEq, api.OpSub, api.OpMul} {
					l = append(l, do(op, x, y))
				}
			}
		}
	}
	return l
}

// withoutPair is the text without the parenthesis i, which is open, and its other one.
func withoutPair(l []string, i int) []string {
	depth := 0
	for j := i; ; j++ {
		switch l[j] {
		case "(":
			depth++
		case ")":
			depth--
		}
		if depth == 0 {
			return slices.Concat(l[:i], l[i+1:j], l[j+1:])
		}
	}
}

// hasNoNeedlessParentheses sees to it that each pair of parentheses says something: without it the text says something else, or it stands around a number behind a -, or belongs to COUNT.
func hasNoNeedlessParentheses(t *testing.T, s string, x api.Expr) {
	t.Helper()
	l := strings.Fields(s)
	for i, word := range l {
		if word != "(" || i > 0 && l[i-1] == "count" {
			continue
		}
		if i > 0 && l[i-1] == "-" && l[i+1] == "5" && l[i+2] == ")" && (i < 2 || slices.Contains([]string{"(", "-", "*", "or", "and", "=", "not"}, l[i-2])) {
			continue
		}
		without := strings.Join(withoutPair(l, i), " ")
		if got, f := Expr(without); f == (api.Fault{}) && equal(got, x) {
			t.Errorf("%q needs no parentheses at its word %d", s, i)
		}
	}
}

// TestAllSmallExpressions of up to two operations, and some of three.
func TestAllSmallExpressions(t *testing.T) {
	l := slices.Concat(smallExprs(0), smallExprs(1), smallExprs(2))
	for i, x := range smallExprs(3) {
		if i%37 == 0 {
			l = append(l, x)
		}
	}
	for _, x := range l {
		var w words
		tellExpr(&w, x, nil)
		isSo(t, w.written(nil), x)
		isOfTheModel(t, w.written(nil))
		hasNoNeedlessParentheses(t, w.written(nil), x)
	}
	if len(l) < 4000 {
		t.Errorf("%d expressions alone", len(l))
	}
}

// pieces are tokens of which texts are made that are no statements, mostly.
func pieces() []string {
	return strings.Fields("and as asc begin bool by commit count create delete desc false from group index insert int into is join key limit max min not null on or order primary rollback savepoint select set sum table text to true unique update values where " +
		"a t x 0 1 7 9223372036854775807 9223372036854775808 1073741824 1073741825 'a' 'select' '(' '' ( ) , ; . * + - / % = < > <> <= >= ||")
}

// changed is the text with a token or two changed.
func (m *maker) changed(l []string) []string {
	l = slices.Clone(l)
	all := pieces()
	for range 1 + m.Intn(2) {
		piece := all[m.Intn(len(all))]
		i := m.Intn(len(l) + 1)
		switch m.Intn(5) {
		case 0:
			l = slices.Insert(l, i, piece)
		case 1:
			l = l[:i]
		case 2:
			l = slices.Delete(l, min(i, len(l)), min(i+1, len(l)))
		case 3:
			if i < len(l) {
				l[i] = piece
			}
		case 4:
			if i+1 < len(l) {
				l[i], l[i+1] = l[i+1], l[i]
			}
		}
	}
	return l
}

// endsWell sees to it that s, whatever it is, gives a statement that may be told again, or a listed fault at a place of the text.
func endsWell(t *testing.T, s string) {
	t.Helper()
	isLikeTheModel(t, s)
	stmt, f := Parse(s)
	isListed(t, s, f)
	if f.Err == api.OK {
		tellsAgain(t, s, stmt)
	}
	l, f := Script(s)
	isListed(t, s, f)
	if f.Err != api.OK && l != nil {
		t.Errorf("Script of %q: %v and %v", short(s), l, f)
	}
	x, f := Expr(s)
	isListed(t, s, f)
	if f.Err == api.OK {
		isOfTheModel(t, s)
		if told, e := PrintExpr(x); e == api.OK {
			isSo(t, told, x)
		} else if len(s) < 1000 && !strings.Contains(s, "-") {
			t.Errorf("PrintExpr of Expr of %q: %v", short(s), e)
		}
	}
}

func tellsAgain(t *testing.T, s string, stmt api.Stmt) {
	t.Helper()
	told, e := Print(stmt)
	if e != api.OK {
		if len(s) < 1000 && !strings.Contains(s, "-") { // a longer one may be too long when it is told, one with a - too deep
			t.Errorf("Print of Parse of %q: %v", short(s), e)
		}
		return
	}
	readsSo(t, told, stmt)
	if want := tellStmt(stmt, nil).written(nil); told != want {
		t.Errorf("Print of Parse of %q: %q; want %q", short(s), short(told), short(want))
	}
}

// isListed sees to it that the fault is one of those that the chapter names, and at a place of the text.
func isListed(t *testing.T, s string, f api.Fault) {
	t.Helper()
	if !slices.Contains([]api.Errno{0, 3, 230, 231, 232, 233, 240, 241}, f.Err) {
		t.Errorf("%q: %v", short(s), f)
	}
	switch {
	case f.Err == api.OK && f.At == 0:
	case len(s) > api.MaxText:
		if f != (api.Fault{Err: api.ErrLong, At: -1}) {
			t.Errorf("%q: %v", short(s), f)
		}
	case f.At < 0 || f.At > len(s) || f.At == len(s) && f.Err != api.ErrSyntax:
		t.Errorf("%q: %v", short(s), f)
	}
}

// TestTextsThatAreAlmostStatements: each has the fault that the model has, and ends.
func TestTextsThatAreAlmostStatements(t *testing.T) {
	m := newMaker(3)
	m.over = true
	v := &vary{m.Rand}
	counts := map[api.Errno]int{}
	for range 2500 {
		l := m.changed(tellStmt(m.stmt(), v))
		s := strings.Join(l, " ")
		if m.Intn(10) == 0 {
			s = "begin ; " + s + " ; " + strings.Join(tellStmt(m.stmt(), nil), " ")
		}
		_, f := Parse(s)
		counts[f.Err]++
		endsWell(t, s)
		if t.Failed() {
			return
		}
	}
	for e, least := range map[api.Errno]int{api.OK: 100, api.ErrSyntax: 1000, api.ErrLong: 40, api.ErrNumber: 2} {
		if counts[e] < least {
			t.Errorf("%d texts alone had the fault %v", counts[e], e)
		}
	}
}

// TestTextsOfAnyTokens, up to four of them, and longer ones by chance.
func TestTextsOfAnyTokens(t *testing.T) {
	all := pieces()
	for _, a := range all {
		endsWell(t, a)
		for _, b := range all {
			isLikeTheModel(t, a+" "+b)
		}
	}
	r := rand.New(rand.NewSource(4))
	for range 5000 {
		var l []string
		for range 3 + r.Intn(10) {
			l = append(l, all[r.Intn(len(all))])
		}
		endsWell(t, strings.Join(l, " "))
	}
}

// TestTextsOfAnyBytes: most have a fault of the lexer, which all three ways tell.
func TestTextsOfAnyBytes(t *testing.T) {
	r := rand.New(rand.NewSource(5))
	for range 3000 {
		b := make([]byte, r.Intn(40))
		for i := range b {
			b[i] = byte(r.Intn(256))
		}
		endsWell(t, string(b))
		endsWell(t, "select a from t where a = '"+string(b))
	}
}

// TestBlanksCapitalsParenthesesAndAscsSayNothing: the chapter's list, one by one.
func TestBlanksCapitalsParenthesesAndAscsSayNothing(t *testing.T) {
	for want, l := range map[string][]string{
		"select a , b from t where a = 1 order by a , b desc": {
			"select a,b from t where a=1 order by a,b desc", "SELECT A,B FROM T WHERE A=1 ORDER BY A,B DESC", "\n\tselect a ,\r\nb from t where a = 1 order by a , b desc \n",
			"select (a),((b)) from t where (a=1) order by (a),(b) desc", "select a,b from t where (a)=(1) order by a asc,b desc;", "Select A , B From T Where A = 01 Order By A Asc , B Desc ;",
		},
		"insert into t values ( - 1 , 'A b' )":                   {"insert into t values(-1,'A b')", "INSERT INTO T VALUES((-1),('A b'));", "insert into t values ( ( ( - 1 ) ) , 'A b' )"},
		"update t set a = - ( 1 ) where not a = b":               {"update t set a=-(1) where not(a=b)", "UPDATE T SET A=-((1)) WHERE (NOT a=b)", "update t set a = ( - ( 1 ) ) where not ( ( a ) = ( b ) ) ;"},
		"create table t ( a int , primary key ( a ) )":           {"create table t(a int,primary key(a))", "CREATE TABLE T(A INT,PRIMARY KEY(A));"},
		"select count ( * ) , count ( a + 1 ) from t group by a": {"select count(*),count(a+1) from t group by a", "SELECT COUNT ( * ),(COUNT((a+1))) FROM t GROUP BY a"},
	} {
		for _, s := range append(l, want) {
			prints(t, want, mustParse(t, s))
		}
	}
}

// TestChainsAsLongAsATextMayBe are read and told, or told to be too long, and all ends.
func TestChainsAsLongAsATextMayBe(t *testing.T) {
	for _, op := range strings.Fields("or and + - || * / %") {
		n := (api.MaxText - 1) / (3 + len(op)) // with one blank between each two
		s := "a" + strings.Repeat(" "+op+" a", n)
		x := mustExpr(t, s)
		if told, e := PrintExpr(x); told != s || e != api.OK {
			t.Errorf("PrintExpr of a chain of %s: %q, %v", op, short(told), e)
		}
		depth := 0
		for y := x; len(y.Args) > 0; y = y.Args[0] {
			depth++
		}
		if depth != n || x.Op != modelOps[op] {
			t.Errorf("a chain of %s has %d operations", op, depth)
		}
		if !SameExpr(x, mustExpr(t, s)) || SameExpr(x, mustExpr(t, "b"+s[1:])) || SameExpr(x, mustExpr(t, s[:len(s)-1]+"b")) {
			t.Errorf("SameExpr of a chain of %s", op)
		}
		// With another one it is longer than a text may be.
		refusesExpr(t, do(modelOps[op], do(modelOps[op], x, col("a")), col("a")))
	}
	s := "1" + strings.Repeat("+1", 32767)
	refusesExpr(t, mustExpr(t, s)) // with its blanks it is too long
	isNot(t, api.ErrLong, -1, s+"+1")
	if l := mustLex(t, s); len(l) != 65535 {
		t.Errorf("%d tokens", len(l))
	}
}

// TestTheOneTextThatIsNotToldAgain: behind 40 signs - that are no number's, - 0 says the literal 0, around which stand parentheses when it is told: they are too deep.
func TestTheOneTextThatIsNotToldAgain(t *testing.T) {
	printsExpr(t, strings.Repeat("- ", 39)+"( 0 )", mustExpr(t, strings.Repeat("-", 39)+"-0"))
	refusesExpr(t, mustExpr(t, strings.Repeat("-", 40)+"-0"))
	printsExpr(t, strings.Repeat("- ", 41)+"1", mustExpr(t, strings.Repeat("-", 40)+"-1"))
}

func FuzzParse(f *testing.F) {
	for _, s := range full() {
		f.Add(s)
		f.Add(strings.ReplaceAll(s, " ", ""))
	}
	for _, s := range []string{"", ";", "select from t", "select a from", "begin;begin", "select -0 from t", "select 9223372036854775808 from t limit 1073741825", strings.Repeat("begin;", 65)} {
		f.Add(s)
	}
	f.Fuzz(func(t *testing.T, s string) { endsWell(t, s) })
}

func FuzzExpr(f *testing.F) {
	m := newMaker(6)
	for i := range 100 {
		var w words
		tellExpr(&w, m.expr(i%8), &vary{m.Rand})
		f.Add(w.written(nil))
	}
	f.Add(strings.Repeat("(", 41))
	f.Add(strings.Repeat("not ", 41))
	f.Add(strings.Repeat("- ", 41) + "-0")
	f.Fuzz(func(t *testing.T, s string) {
		if _, fault := lexer.Lex(s); fault.Err == api.OK {
			endsWell(t, s)
			endsWell(t, "select a from t where "+s)
		}
	})
}
