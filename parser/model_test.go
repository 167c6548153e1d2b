package parser

import (
	"strconv"
	"strings"
	"testing"

	"stagepost/api"
	"stagepost/lexer"
)

// The model of faults is the chapter's rules, told as rules: a text is gone over token by token, with all stacks of symbols that may still come. The first token that none of them has on top is the one that does not fit; what is one too many, too deep or too great is a symbol of its own.

// symbol is a rule, a list or a token that is to come, in an expression so deep.
type symbol struct {
	name  string
	left  int // of a list and the like: how many there may be
	depth int
}

// stack is what is to come: nil, if that is nothing.
type stack struct {
	top  symbol
	rest *stack
}

const (
	tooMany  = "TOO-MANY"         // any token
	tooManyP = "TOO-MANY-COLUMNS" // any token but PRIMARY
	tooManyS = "TOO-MANY-STMTS"   // any token but ;
)

// modelRules are the chapter's rules. What begins with + is one deeper; a token that begins with ^ makes what belongs to it one deeper; name*4 is a list of at most 4; name/4 may come 4 times more. A small number, a limit and a - ahead of a number or of something else are told apart.
var modelRules = map[string]string{
	"parse":      "statement semicolon",
	"semicolon":  " | ;",
	"statement":  "SELECT item*32 FROM source join/3 where group order limit | INSERT INTO name names VALUES row*64 | UPDATE name SET assign*12 where | DELETE FROM name where | CREATE TABLE name ( define , more/11 | CREATE unique INDEX name ON name ( name*4 ) | BEGIN | COMMIT | ROLLBACK | ROLLBACK TO name | SAVEPOINT name",
	"item":       "* | expr as",
	"as":         " | AS name",
	"source":     "name as",
	"join":       " | JOIN source ON expr join-",
	"join0":      " | JOIN " + tooMany,
	"where":      " | WHERE expr",
	"group":      " | GROUP BY column*32",
	"order":      " | ORDER BY orderitem*32",
	"orderitem":  "expr | expr ASC | expr DESC",
	"limit":      " | LIMIT limitnumber",
	"names":      " | ( name*12 )",
	"row":        "( expr*12 )",
	"assign":     "name = expr",
	"define":     "name kind notnull",
	"kind":       "INT | TEXT | BOOL",
	"notnull":    " | NOT NULL",
	"more":       "define , more- | primary",
	"more0":      tooManyP + " | primary",
	"primary":    "PRIMARY KEY ( name*4 ) )",
	"unique":     " | UNIQUE",
	"script":     " | ; script | statement behind-",
	"behind":     " | ; script",
	"script0":    " | ; script | " + tooManyS,
	"expr":       "and ors",
	"ors":        " | OR and ors",
	"and":        "not ands",
	"ands":       " | AND not ands",
	"not":        "^NOT +not | compare",
	"compare":    "sum compared",
	"compared":   " | = sum | <> sum | < sum | <= sum | > sum | >= sum | IS NULL | IS NOT NULL",
	"sum":        "product sums",
	"sums":       " | + product sums | - product sums | || product sums",
	"product":    "unary products",
	"products":   " | * unary products | / unary products | % unary products",
	"unary":      "-number anynumber | ^-other +unary | operand",
	"operand":    "smallnumber | text | TRUE | FALSE | NULL | ^( +expr ) | column | ^COUNT ( * ) | ^COUNT ( +expr ) | ^SUM ( +expr ) | ^MIN ( +expr ) | ^MAX ( +expr )",
	"column":     "name | name . name",
	"expression": "expr",
}

// modelWays are the rules, cut into ways, each of them into symbols.
var modelWays = cutWays()

func cutWays() map[string][][]string {
	out := map[string][][]string{}
	for name, rule := range modelRules {
		// A blank stands on both sides of a bar between ways; the sign || has no blank within.
		for _, way := range strings.Split(rule, " | ") {
			out[name] = append(out[name], strings.Fields(way))
		}
	}
	return out
}

// knownWays are the answers of waysOf.
var knownWays = map[symbol][][]symbol{}

// waysOf are the ways of a symbol, or none, if it is a token.
func waysOf(s symbol) [][]symbol {
	if _, ok := knownWays[s]; !ok {
		knownWays[s] = findWays(s)
	}
	return knownWays[s]
}

func findWays(s symbol) [][]symbol {
	if of, ok := strings.CutSuffix(s.name, "*"); ok && of != "" {
		one := symbol{of, 0, s.depth}
		more := symbol{tooMany, 0, s.depth}
		if s.left > 1 {
			more = symbol{s.name, s.left - 1, s.depth}
		}
		return [][]symbol{{one}, {one, {",", 0, s.depth}, more}}
	}
	ways, ok := modelWays[s.name+"0"]
	if !ok || s.left > 0 {
		ways = modelWays[s.name]
	}
	var out [][]symbol
	for _, way := range ways {
		l := []symbol{}
		for _, word := range way {
			l = append(l, symbolOf(word, s))
		}
		out = append(out, l)
	}
	return out
}

// symbolOf is what a word says in a way of s.
func symbolOf(word string, s symbol) symbol {
	depth := s.depth
	if len(word) > 1 && word[0] == '+' {
		word, depth = word[1:], depth+1
	}
	if name, ok := strings.CutSuffix(word, "-"); ok && name != "" {
		return symbol{name, s.left - 1, depth}
	}
	if i := strings.IndexAny(word, "*/"); i > 0 {
		most, _ := strconv.Atoi(word[i+1:])
		if word[i] == '*' {
			return symbol{word[:i+1], most, depth}
		}
		return symbol{word[:i], most, depth}
	}
	left := 0
	if strings.HasPrefix(word, "script") || strings.HasPrefix(word, "behind") {
		left = s.left
	}
	return symbol{word, left, depth}
}

// open are the stacks that s may become, with a token on top of each, or with nothing to come.
func open(s *stack, out []*stack) []*stack {
	if s == nil {
		return append(out, nil)
	}
	ways := waysOf(s.top)
	if ways == nil {
		return append(out, s)
	}
	for _, way := range ways {
		next := s.rest
		for i := len(way) - 1; i >= 0; i-- {
			next = &stack{way[i], next}
		}
		out = open(next, out)
	}
	return out
}

// fits says whether the token i may be what s says, and with what fault.
func fits(s symbol, tokens []api.Token, i int) (bool, api.Errno) {
	token := tokens[i]
	said := token.Text
	if token.Kind != api.WordToken && token.Kind != api.SignToken {
		said = ""
	}
	switch s.name {
	case tooMany:
		return true, api.ErrLong
	case tooManyP:
		return said != "primary", api.ErrLong
	case tooManyS:
		return said != ";", api.ErrLong
	case "name":
		return token.Kind == api.WordToken && !lexer.Reserved(said), api.OK
	case "text":
		return token.Kind == api.TextToken, api.OK
	case "anynumber":
		return token.Kind == api.NumberToken, api.OK
	case "smallnumber":
		return token.Kind == api.NumberToken, refusedAbove(token, 1<<63-1)
	case "limitnumber":
		return token.Kind == api.NumberToken, refusedAbove(token, 1<<30)
	case "-number":
		return said == "-" && isNumber(tokens, i+1), api.OK
	case "^-other":
		return said == "-" && !isNumber(tokens, i+1), refusedBelow(s.depth)
	}
	if deeper, ok := strings.CutPrefix(s.name, "^"); ok {
		return said == strings.ToLower(deeper), refusedBelow(s.depth)
	}
	return said == strings.ToLower(s.name), api.OK
}

func isNumber(tokens []api.Token, i int) bool {
	return i < len(tokens) && tokens[i].Kind == api.NumberToken
}

func refusedAbove(token api.Token, most uint64) api.Errno {
	if token.Number > most {
		return api.ErrNumber
	}
	return api.OK
}

func refusedBelow(depth int) api.Errno {
	if depth >= 40 {
		return api.ErrDepth
	}
	return api.OK
}

// modelFault is the fault of s, read from that rule on.
func modelFault(rule string, s string) api.Fault {
	tokens, f := lexer.Lex(s)
	if f != (api.Fault{}) {
		return f
	}
	now := open(&stack{symbol{rule, 64, 0}, nil}, nil)
	for i, token := range tokens {
		var next []*stack
		refused := api.OK
		for _, s := range now {
			if s == nil {
				continue
			}
			if ok, e := fits(s.top, tokens, i); ok && e == api.OK {
				next = open(s.rest, next)
			} else if ok {
				refused = e
			}
		}
		switch {
		case refused != api.OK && len(next) > 0:
			panic("the model is of two minds")
		case refused != api.OK:
			return api.Fault{Err: refused, At: token.At}
		case len(next) == 0:
			return api.Fault{Err: api.ErrSyntax, At: token.At}
		}
		now = next
	}
	for _, s := range now {
		if s == nil {
			return api.Fault{}
		}
	}
	return api.Fault{Err: api.ErrSyntax, At: len(s)}
}

// isLikeTheModel sees to it that the three ways of reading s have the model's faults.
func isLikeTheModel(t *testing.T, s string) {
	t.Helper()
	if _, f := Parse(s); f != modelFault("parse", s) {
		t.Errorf("Parse of %q: %v; want %v", short(s), f, modelFault("parse", s))
	}
	if _, f := Script(s); f != modelFault("script", s) {
		t.Errorf("Script of %q: %v; want %v", short(s), f, modelFault("script", s))
	}
	if _, f := Expr(s); f != modelFault("expression", s) {
		t.Errorf("Expr of %q: %v; want %v", short(s), f, modelFault("expression", s))
	}
}

// TestTheModel: what the chapter's words say of these, the model says.
func TestTheModel(t *testing.T) {
	for _, s := range full() {
		if f := modelFault("parse", s); f != (api.Fault{}) {
			t.Errorf("the model of %q: %v", s, f)
		}
	}
	for s, want := range map[string]api.Fault{
		"select from t": {Err: api.ErrSyntax, At: 7}, "select a from": {Err: api.ErrSyntax, At: 13}, "": {Err: api.ErrSyntax},
		"insert into t values (1,1,1,1,1,1,1,1,1,1,1,1,": {Err: api.ErrSyntax, At: 46}, "insert into t values (1,1,1,1,1,1,1,1,1,1,1,1,1": {Err: api.ErrLong, At: 46},
	} {
		if f := modelFault("parse", s); f != want {
			t.Errorf("the model of %q: %v", s, f)
		}
	}
	for s, want := range map[string]api.Fault{
		strings.Repeat("(", 41): {Err: api.ErrDepth, At: 40}, "a = b = c": {Err: api.ErrSyntax, At: 6}, "9223372036854775808": {Err: api.ErrNumber}, "-9223372036854775808": {},
	} {
		if f := modelFault("expression", s); f != want {
			t.Errorf("the model of %q: %v", s, f)
		}
	}
	if f := modelFault("script", strings.Repeat("begin;", 64)+"begin;"); f != (api.Fault{Err: api.ErrLong, At: 384}) {
		t.Errorf("the model of 65 statements: %v", f)
	}
	if f := modelFault("script", strings.Repeat("begin;", 64)+";;"); f != (api.Fault{}) {
		t.Errorf("the model of 64 statements: %v", f)
	}
}
