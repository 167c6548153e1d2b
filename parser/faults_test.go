package parser

import (
	"strings"
	"testing"

	"stagepost/api"
	"stagepost/lexer"
)

// TestTextsThatEndTooEarly, at each place of each statement: told at the text's length, blanks behind the last token included.
func TestTextsThatEndTooEarly(t *testing.T) {
	early := 0
	for _, s := range full() {
		l := mustLex(t, s)
		for i, token := range l {
			begun := s[:token.At]
			for _, ahead := range []string{strings.TrimSuffix(begun, " "), begun, begun + "\n\t"} {
				want := modelFault("parse", ahead)
				if _, f := Parse(ahead); f != want {
					t.Errorf("Parse of %q: %v; want %v", ahead, f, want)
				}
				if want == (api.Fault{}) { // what is there is a statement, too
					if i < 3 && !strings.HasPrefix(s, "delete") && !strings.HasPrefix(s, "rollback") && !strings.HasPrefix(s, "commit") && !strings.HasPrefix(s, "savepoint") {
						t.Errorf("%q is a statement", ahead)
					}
					continue
				}
				early++
				faults(t, api.ErrSyntax, len(ahead), ahead)
				if i > 0 { // an empty statement is passed over
					noScript(t, api.ErrSyntax, len(ahead)+8, " begin; "+ahead)
					noScript(t, api.ErrSyntax, len(ahead), ahead+";")
					noScript(t, api.ErrSyntax, len(ahead), ahead+"; begin")
				}
				faults(t, api.ErrSyntax, len(ahead), ahead+";")
			}
		}
	}
	if early < 300 {
		t.Errorf("%d texts alone ended too early", early)
	}
}

// TestExpressionsThatEndTooEarly, at each place.
func TestExpressionsThatEndTooEarly(t *testing.T) {
	m := newMaker(8)
	early := 0
	for i := range 300 {
		var w words
		tellExpr(&w, m.expr(i%8), &vary{m.Rand})
		for n := range w {
			s := strings.Join(w[:n], " ")
			want := modelFault("expression", s)
			if _, f := Expr(s); f != want {
				t.Errorf("Expr of %q: %v; want %v", s, f, want)
			}
			if want != (api.Fault{}) {
				early++
				if want.Err == api.ErrNumber { // the - of the least number was taken
					continue
				}
				isNot(t, api.ErrSyntax, len(s), s)
			}
		}
	}
	if early < 1000 {
		t.Errorf("%d expressions alone ended too early", early)
	}
}

// TestTokensThatDoNotFit: each token at each place of each statement, instead of the one that is there, and as the last one of all.
func TestTokensThatDoNotFit(t *testing.T) {
	for _, s := range full() {
		l := mustLex(t, s)
		for i, token := range l {
			end := len(s)
			if i+1 < len(l) {
				end = l[i+1].At
			}
			for _, piece := range pieces() {
				for _, said := range []string{
					s[:token.At] + piece + " " + s[end:],
					s[:token.At] + piece,
				} {
					if _, f := Parse(said); f != modelFault("parse", said) {
						t.Errorf("Parse of %q: %v; want %v", said, f, modelFault("parse", said))
					}
				}
			}
		}
		for i, token := range l { // one is left out
			end := len(s)
			if i+1 < len(l) {
				end = l[i+1].At
			}
			isLikeTheModel(t, s[:token.At]+s[end:])
		}
	}
}

// TestFaultsOfTheLexer come ahead of all others, wherever they stand, and as the lexer tells them.
func TestFaultsOfTheLexer(t *testing.T) {
	for _, bad := range []string{"!", "|", "\xff", "'", "'a", "'\xff'", "9223372036854775809", strings.Repeat("a", 33), "'" + strings.Repeat("a", 65) + "'", "\x00", "\"a\"", "é"} {
		for _, ahead := range []string{"", " ", "select a from ", "select from ", ") ) ", "begin ; ; ", "select 9223372036854775808 ", strings.Repeat("( ", 50), "select " + times(40, "a") + " , ", strings.Repeat("begin;", 70), "insert into t values ( 1 ) , "} {
			for _, behind := range []string{"", " ", " from t", " ! #"} {
				s := ahead + bad + behind
				_, want := lexer.Lex(s)
				if want.At != len(ahead) || want.Err == api.OK {
					t.Fatalf("Lex of %q: %v", s, want)
				}
				faults(t, want.Err, len(ahead), s)
				noScript(t, want.Err, len(ahead), s)
				isNot(t, want.Err, len(ahead), s)
			}
		}
	}
}

// TestTextsThatAreTooLong are told at no place, whatever they say.
func TestTextsThatAreTooLong(t *testing.T) {
	for _, s := range []string{"begin", "", "select from t", "!", "a", strings.Repeat("begin;", 65), "'"} {
		long := s + strings.Repeat(" ", 65537-len(s))
		faults(t, api.ErrLong, -1, long)
		noScript(t, api.ErrLong, -1, long)
		isNot(t, api.ErrLong, -1, long)
		isLikeTheModel(t, long[:65536])
	}
	blank := strings.Repeat(" ", 65531)
	reads(t, blank+"begin", api.Stmt{Kind: api.Begin})
	reads(t, "begin"+blank, api.Stmt{Kind: api.Begin})
	is(t, blank+"a + b", do(api.OpAdd, a(), b()))
	faults(t, api.ErrSyntax, 65531, blank+"join ")
	isNot(t, api.ErrSyntax, 65536, blank+"a + (")
	faults(t, api.ErrSyntax, 65536, strings.Repeat(" ", 65536))
}

// TestTheFirstOfTwoFaults is told: the one that is met first, from left to right.
func TestTheFirstOfTwoFaults(t *testing.T) {
	// Each is a fault within the items of a SELECT, at its ^.
	wrong := []struct {
		e api.Errno
		s string
	}{
		{api.ErrSyntax, "a + ^, b"}, {api.ErrSyntax, "( a ^b )"}, {api.ErrSyntax, "a . ^1"}, {api.ErrSyntax, "^)"}, {api.ErrSyntax, "a is not ^a"}, {api.ErrSyntax, "a as ^select"},
		{api.ErrNumber, "^9223372036854775808"}, {api.ErrNumber, "a - ^9223372036854775808"}, {api.ErrNumber, "( ^9223372036854775808 b"},
		{api.ErrDepth, strings.Repeat("(", 40) + "^( a"}, {api.ErrDepth, strings.Repeat("not ", 40) + "^count x"}, {api.ErrDepth, strings.Repeat("-", 40) + "^- )"},
		{api.ErrLong, times(32, "a") + ", ^b"}, {api.ErrLong, times(32, "a") + ", ^9223372036854775808"}, {api.ErrLong, times(32, "a") + ", ^)"},
	}
	for _, first := range wrong {
		for _, second := range wrong {
			s := "select " + first.s + " , " + strings.Replace(second.s, "^", "", 1) + " from t"
			faultsAt(t, first.e, s)
			noScriptAt(t, first.e, s+";"+strings.Replace(second.s, "^", "", 1))
			faultsAt(t, first.e, "select "+first.s+" from t limit 1073741825")
			faultsAt(t, first.e, "select "+first.s+" from")
		}
		if first.e == api.ErrLong {
			continue
		}
		bare := strings.Replace(first.s, "^", "", 1)
		// What stands ahead of it is told in its stead.
		faultsAt(t, api.ErrSyntax, "select a ^b , "+bare+" from t")
		faultsAt(t, api.ErrNumber, "select ^9223372036854775808 , "+bare+" from t")
		faultsAt(t, api.ErrDepth, "select "+strings.Repeat("(", 40)+"^( a , "+bare+" from t")
		faultsAt(t, api.ErrLong, "select "+times(32, "a")+" , ^"+bare+" from t")
		faultsAt(t, api.ErrSyntax, "select a from t ^t where "+bare)
		faultsAt(t, api.ErrLong, "select a from t"+strings.Repeat(" join t on a", 3)+" join ^t on "+bare)
		faultsAt(t, api.ErrLong, "insert into t ( "+times(12, "a")+" , ^a ) values ( "+bare)
		faultsAt(t, api.ErrLong, "insert into t values ( "+times(12, "1")+" , ^"+bare)
		faultsAt(t, api.ErrLong, "insert into t values "+times(64, "(1)")+" , ^( "+bare)
		faultsAt(t, api.ErrLong, "update t set "+times(12, "a = 1")+" , ^a = "+bare)
	}
	faultsAt(t, api.ErrNumber, "select a from t limit ^1073741825 limit 1")
	faultsAt(t, api.ErrSyntax, "select a from t limit 1 ^limit 1073741825")
	faultsAt(t, api.ErrSyntax, "select a from t order by ^, 9223372036854775808")
}

// TestFaultsHaveNothingBesideThem (rule 2), in each of the three ways.
func TestFaultsHaveNothingBesideThem(t *testing.T) {
	for _, s := range []string{"select a , b from t where a = 1 limit 1 1", "insert into t ( a ) values ( 1 ) , ( 2 ) 3", "create table t ( a int , primary key ( a ) ) a", "a + b c", "count ( a ) ) ", "select 1 from t ; !"} {
		if _, f := Parse(s); f.Err == api.OK {
			t.Errorf("Parse of %q is OK", s)
		} else {
			faults(t, f.Err, f.At, s)
		}
		if _, f := Expr(s); f.Err == api.OK {
			t.Errorf("Expr of %q is OK", s)
		} else {
			isNot(t, f.Err, f.At, s)
		}
		if _, f := Script("begin;" + s); f.Err == api.OK {
			t.Errorf("Script of %q is OK", s)
		} else {
			noScript(t, f.Err, f.At, "begin;"+s)
		}
	}
}
