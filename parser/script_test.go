package parser

import (
	"strings"
	"testing"

	"stagepost/api"
)

func TestScriptOfNone(t *testing.T) {
	for _, s := range []string{"", " ", "\n\t ", ";", ";;", " ; ; ", strings.Repeat(";", 1000), strings.Repeat(" ;", 32768)} {
		script(t, s)
		if l, _ := Script(s); l != nil {
			t.Errorf("Script of %q: %v", short(s), l)
		}
	}
}

func TestScripts(t *testing.T) {
	begin, commit := api.Stmt{Kind: api.Begin}, api.Stmt{Kind: api.Commit}
	script(t, "begin", begin)
	script(t, "begin;", begin)
	script(t, ";begin", begin)
	script(t, "begin;commit", begin, commit)
	script(t, "begin;commit;", begin, commit)
	script(t, " ; ;begin ;; ; commit ; ;", begin, commit)
	script(t, "BEGIN\n;\nINSERT INTO t VALUES (1);\nCOMMIT;", begin, api.Stmt{Kind: api.Insert, Name: "t", Rows: [][]api.Expr{{num(1)}}}, commit)
	script(t, "begin;begin;begin", same(3, begin)...)
	script(t, "savepoint s ; select ';' from t ; rollback to s", api.Stmt{Kind: api.Savepoint, Name: "s"}, of1(func(s *api.Stmt) { s.Items = items(text(";")) }), api.Stmt{Kind: api.RollbackTo, Name: "s"})
	var all []api.Stmt
	for _, s := range full() {
		all = append(all, mustParse(t, s))
	}
	var trim []string
	for _, s := range full() {
		trim = append(trim, trimmed(s))
	}
	for _, between := range []string{";", " ; ", ";;;", "\n;\n;\t"} {
		script(t, strings.Join(trim, between), all...)
		script(t, between+strings.Join(trim, between)+between, all...)
	}
}

// TestStatementsArePartedBySemicolons: two with none between are told at the second one.
func TestStatementsArePartedBySemicolons(t *testing.T) {
	noScriptAt(t, api.ErrSyntax, "begin ^begin")
	noScriptAt(t, api.ErrSyntax, "begin ; commit ^begin ;")
	noScriptAt(t, api.ErrSyntax, "begin ^, begin")
	noScriptAt(t, api.ErrSyntax, "^, begin")
	noScriptAt(t, api.ErrSyntax, "select a from t ^begin")
	noScriptAt(t, api.ErrSyntax, "delete from t where a ^begin")
	for _, s := range full() {
		noScript(t, api.ErrSyntax, len(trimmed(s))+1, trimmed(s)+" begin")
		noScript(t, api.ErrSyntax, len(trimmed(s))+3, "; "+trimmed(s)+" begin")
	}
}

func TestScriptsOf64And65(t *testing.T) {
	begin := api.Stmt{Kind: api.Begin}
	for _, one := range []string{"begin;", "begin ; ", ";begin;", " ;; begin ;; ; "} {
		for n := range 65 {
			script(t, strings.Repeat(one, n), same(n, begin)...)
		}
		full := strings.Repeat(one, 64)
		script(t, full+";;", same(64, begin)...)
		script(t, full+" ; ; ;", same(64, begin)...)
		script(t, strings.TrimRight(full, "; "), same(64, begin)...)
		noScript(t, api.ErrLong, len(full), full+"begin")
		noScript(t, api.ErrLong, len(full), full+"begin;")
		noScript(t, api.ErrLong, len(full)+6, full+" ;; ; begin; commit; begin")
		// Whatever it is, and whatever stands behind.
		for _, piece := range pieces() {
			if piece != ";" {
				noScript(t, api.ErrLong, len(full)+1, full+";"+piece)
				noScript(t, api.ErrLong, len(full)+2, full+" ;"+piece+" ) 9223372036854775808")
			}
		}
	}
	noScript(t, api.ErrLong, 384, strings.Repeat("begin;", 70))
	noScript(t, api.ErrSyntax, 384, strings.Repeat("begin;", 63)+"begin ,")
}

// TestTheFirstStatementThatHasAFault: it is told at its place in the whole text, as Parse tells it.
func TestTheFirstStatementThatHasAFault(t *testing.T) {
	wrong := []string{
		"select ^from t", "select a from^", "select a from t ^t", "insert into t values ( 1 ^2 )", "^a", "^select_ a", "select ^9223372036854775808 from t", "select a from t limit ^1073741825", "update t set a = ^", "rollback to ^", "create ^t",
		"select " + strings.Repeat("(", 40) + "^(", "insert into t values ( " + times(12, "1") + ", ^1 )", "select " + times(32, "a") + " , ^b from t", "create table t ( a int , primary key ( a , b , c , d , ^e ) )", "select a from t" + strings.Repeat(" join t on a", 3) + " join ^t on a",
	}
	for _, first := range wrong {
		_, f := Parse(strings.Replace(first, "^", "", 1))
		if f.At != indexOf(first) {
			t.Errorf("Parse of %q: %v", first, f)
		}
		for _, ahead := range []string{"", ";", "begin;", " begin ; ; commit ; ", strings.Repeat("begin;", 63), "select ';' from t ; "} {
			for _, behind := range []string{"", ";", "; begin", ";;", "; select from t", ";" + strings.Repeat("begin;", 70)} {
				noScriptAt(t, f.Err, ahead+first+behind)
			}
		}
	}
	// With a blank ahead of the ; it is this that does not fit.
	noScriptAt(t, api.ErrSyntax, "begin ; select a from ^; select from t")
	noScriptAt(t, api.ErrSyntax, "begin ; rollback to \n\t^;;")
	faultsAt(t, api.ErrSyntax, "select a from ^;")
	// A second one is met no more.
	for _, first := range wrong {
		for _, second := range wrong {
			_, f := Parse(strings.Replace(first, "^", "", 1))
			noScriptAt(t, f.Err, "begin;"+first+";"+strings.Replace(second, "^", "", 1))
		}
	}
}

// TestAListThatIsTooLongAheadOfASemicolon: the ; is the first token of what is one too many, in a script as elsewhere.
func TestAListThatIsTooLongAheadOfASemicolon(t *testing.T) {
	for _, l := range allLimited() {
		s := l.of(l.most) + l.between
		faults(t, api.ErrLong, len(s), s+";")
		noScript(t, api.ErrLong, len(s), s+";")
		noScript(t, api.ErrLong, len(s), s+"; begin")
		noScript(t, api.ErrLong, len(s)+7, "begin; "+s+"; begin")
	}
}
