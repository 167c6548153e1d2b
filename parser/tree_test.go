package parser

import (
	"math/rand"
	"slices"
	"strconv"
	"strings"
	"testing"

	"stagepost/api"
	"stagepost/lexer"
)

// The model of expressions splits the tokens of one at what is done last, and so on. The model of texts tells statements piece by piece; whether an operand needs its parentheses it sees by leaving them out.

// between are the operations of two by rank, what is done last first.
var between = [][]string{{"or"}, {"and"}, {"=", "<>", "<", "<=", ">", ">="}, {"+", "-", "||"}, {"*", "/", "%"}}

var modelOps = map[string]api.Op{
	"or": api.OpOr, "and": api.OpAnd, "=": api.OpEq, "<>": api.OpNe, "<": api.OpLt, "<=": api.OpLe, ">": api.OpGt, ">=": api.OpGe,
	"+": api.OpAdd, "-": api.OpSub, "||": api.OpJoin, "*": api.OpMul, "/": api.OpDiv, "%": api.OpMod,
	"sum": api.OpSum, "min": api.OpMin, "max": api.OpMax, "count": api.OpCount,
}

// modelSaid is how an operation is said.
func modelSaid(op api.Op) string {
	for said, of := range modelOps {
		if of == op {
			return said
		}
	}
	return ""
}

// modelTree is the expression that the tokens are, which must be one.
func modelTree(l []api.Token) api.Expr {
	for rank, of := range between {
		if rank == 2 && l[0] == (api.Token{Kind: api.WordToken, Text: "not"}) {
			return do(api.OpNot, modelTree(l[1:]))
		}
		if i := lastOf(l, of); i > 0 {
			return do(modelOps[l[i].Text], modelTree(l[:i]), modelTree(l[i+1:]))
		}
		if x, ok := modelNullness(l); rank == 2 && ok {
			return x
		}
	}
	if l[0] == (api.Token{Kind: api.SignToken, Text: "-"}) {
		if l[1].Kind == api.NumberToken {
			return num(-int64(l[1].Number))
		}
		return do(api.OpNeg, modelTree(l[1:]))
	}
	return modelPrimary(l)
}

// lastOf is the place of the last of these between two operands, outside of all parentheses: 0, if there is none.
func lastOf(l []api.Token, of []string) int {
	last, depth := 0, 0
	for i, token := range l {
		if token.Kind == api.SignToken && token.Text == "(" {
			depth++
		}
		if token.Kind == api.SignToken && token.Text == ")" {
			depth--
		}
		if depth == 0 && i > 0 && (token.Kind == api.WordToken || token.Kind == api.SignToken) && slices.Contains(of, token.Text) && endsOperand(l[i-1]) {
			last = i
		}
	}
	return last
}

// endsOperand says whether an operand may end with the token: a - behind another one is of one operand.
func endsOperand(token api.Token) bool {
	switch token.Kind {
	case api.SignToken:
		return token.Text == ")"
	case api.WordToken:
		return !slices.Contains([]string{"or", "and", "not"}, token.Text)
	}
	return true
}

// modelNullness is the expression, if an IS stands outside of all parentheses.
func modelNullness(l []api.Token) (api.Expr, bool) {
	i := lastOf(l, []string{"is"})
	switch {
	case i == 0:
		return api.Expr{}, false
	case len(l)-i == 3:
		return do(api.OpNotNull, modelTree(l[:i])), true
	}
	return do(api.OpIsNull, modelTree(l[:i])), true
}

func modelPrimary(l []api.Token) api.Expr {
	first := l[0]
	switch {
	case first.Kind == api.NumberToken:
		return num(int64(first.Number))
	case first.Kind == api.TextToken:
		return text(first.Text)
	case first.Text == "(":
		return modelTree(l[1 : len(l)-1])
	case first.Text == "true":
		return yes()
	case first.Text == "false":
		return no()
	case first.Text == "null":
		return null()
	case first.Text == "count" && l[2] == (api.Token{Kind: api.SignToken, Text: "*"}):
		return do(api.OpCountAll)
	case lexer.Reserved(first.Text):
		return do(modelOps[first.Text], modelTree(l[2:len(l)-1]))
	case len(l) == 3:
		return col(first.Text, l[2].Text)
	}
	return col(first.Text)
}

// modelExpr is the expression that s is, if it is one.
func modelExpr(s string) (api.Expr, bool) {
	if modelFault("expression", s) != (api.Fault{}) {
		return api.Expr{}, false
	}
	l, _ := lexer.Lex(s)
	for i := range l {
		l[i].At = 0
	}
	return modelTree(l), true
}

// isOfTheModel sees to it that Expr reads s as the model does.
func isOfTheModel(t *testing.T, s string) {
	t.Helper()
	if want, ok := modelExpr(s); ok {
		is(t, s, want)
		return
	}
	if _, f := Expr(s); f == (api.Fault{}) {
		t.Errorf("Expr of %q is OK", short(s))
	}
}

// vary is what a text may have that says nothing.
type vary struct {
	*rand.Rand
}

// parens says whether there are needless parentheses.
func (v *vary) parens() bool {
	return v != nil && v.Intn(5) == 0
}

// words are the tokens of a text.
type words []string

func (w *words) say(l ...string) { *w = append(*w, l...) }

// example is an expression that is read as x is, of the same rank: x with columns as operands.
func example(x api.Expr) api.Expr {
	if x.Op == api.OpValue || x.Op == api.OpName {
		return x
	}
	x.Args = slices.Clone(x.Args)
	for i := range x.Args {
		x.Args[i] = col("x")
	}
	return x
}

// needs says whether the operand i of x needs its parentheses: whether it would not be read as this operand without them, or is a number behind a -.
func needs(x api.Expr, i int) bool {
	operand := x.Args[i]
	if x.Op == api.OpNeg && operand.Op == api.OpValue && operand.Value.Kind == api.Int && operand.Value.Int >= 0 {
		return true
	}
	if x.Op == api.OpCount || x.Op == api.OpSum || x.Op == api.OpMin || x.Op == api.OpMax {
		return false
	}
	if operand.Op == api.OpName || operand.Op == api.OpValue && operand.Value.Kind != api.Int {
		return false
	}
	whole := example(x)
	whole.Args[i] = example(operand)
	var w words
	tellWith(&w, whole, func(int) bool { return false }, nil)
	got, ok := modelExpr(strings.Join(w, " "))
	return !ok || !equal(got, whole)
}

// known are the answers of needs, by what they hang on.
var known = map[[4]int]bool{}

func knownNeeds(x api.Expr, i int) bool {
	sign := 0
	if v := x.Args[i].Value; v.Kind == api.Int {
		sign = 1
		if v.Int < 0 {
			sign = 2
		}
	}
	key := [4]int{int(x.Op), i, int(x.Args[i].Op), sign}
	if _, ok := known[key]; !ok {
		known[key] = needs(x, i)
	}
	return known[key]
}

// tellExpr tells an expression, with needless parentheses if v says so.
func tellExpr(w *words, x api.Expr, v *vary) {
	if v.parens() {
		w.say("(")
		tellExpr(w, x, v)
		w.say(")")
		return
	}
	tellWith(w, x, func(i int) bool { return knownNeeds(x, i) }, v)
}

// tellWith tells an expression, the operand i in parentheses if that is said of it.
func tellWith(w *words, x api.Expr, parens func(int) bool, v *vary) {
	operand := func(i int) {
		if parens(i) {
			w.say("(")
			tellExpr(w, x.Args[i], v)
			w.say(")")
			return
		}
		tellExpr(w, x.Args[i], v)
	}
	switch x.Op {
	case api.OpValue:
		w.say(valueWords(x.Value)...)
	case api.OpName:
		if x.Table != "" {
			w.say(x.Table, ".")
		}
		w.say(x.Name)
	case api.OpCountAll:
		w.say("count", "(", "*", ")")
	case api.OpCount, api.OpSum, api.OpMin, api.OpMax:
		w.say(modelSaid(x.Op), "(")
		operand(0)
		w.say(")")
	case api.OpNot:
		w.say("not")
		operand(0)
	case api.OpNeg:
		w.say("-")
		operand(0)
	case api.OpIsNull:
		operand(0)
		w.say("is", "null")
	case api.OpNotNull:
		operand(0)
		w.say("is", "not", "null")
	default:
		operand(0)
		w.say(modelSaid(x.Op))
		operand(1)
	}
}

func valueWords(v api.Value) []string {
	switch v.Kind {
	case api.Bool:
		return []string{[]string{"false", "true"}[v.Int]}
	case api.Int:
		if s, ok := strings.CutPrefix(strconv.FormatInt(v.Int, 10), "-"); ok {
			return []string{"-", s}
		}
		return []string{strconv.FormatInt(v.Int, 10)}
	case api.Text:
		return []string{"'" + strings.Join(strings.Split(v.Text, "'"), "''") + "'"}
	}
	return []string{"null"}
}

// commas are pieces with commas between.
func commas[T any](w *words, l []T, one func(T)) {
	for i, x := range l {
		if i > 0 {
			w.say(",")
		}
		one(x)
	}
}

// tellStmt tells a statement that may be.
func tellStmt(s api.Stmt, v *vary) words {
	w := &words{}
	expr := func(x api.Expr) { tellExpr(w, x, v) }
	name := func(s string) { w.say(s) }
	as := func(s string) {
		if s != "" {
			w.say("as", s)
		}
	}
	where := func() {
		if s.Where.Op != api.OpNone {
			w.say("where")
			expr(s.Where)
		}
	}
	switch s.Kind {
	case api.Select:
		w.say("select")
		commas(w, s.Items, func(i api.Item) {
			if i.All {
				w.say("*")
				return
			}
			expr(i.Expr)
			as(i.As)
		})
		w.say("from", s.From[0].Table)
		as(s.From[0].As)
		for _, from := range s.From[1:] {
			w.say("join", from.Table)
			as(from.As)
			w.say("on")
			expr(from.On)
		}
		where()
		if s.Group != nil {
			w.say("group", "by")
			commas(w, s.Group, func(x api.Expr) { tellExpr(w, x, nil) })
		}
		if s.Order != nil {
			w.say("order", "by")
			commas(w, s.Order, func(o api.Order) {
				expr(o.Expr)
				if o.Desc {
					w.say("desc")
				} else if v != nil && v.Intn(2) == 0 {
					w.say("asc")
				}
			})
		}
		if s.Limit >= 0 {
			w.say("limit", strconv.Itoa(s.Limit))
		}
	case api.Insert:
		w.say("insert", "into", s.Name)
		if s.Names != nil {
			w.say("(")
			commas(w, s.Names, name)
			w.say(")")
		}
		w.say("values")
		commas(w, s.Rows, func(row []api.Expr) {
			w.say("(")
			commas(w, row, expr)
			w.say(")")
		})
	case api.Update:
		w.say("update", s.Name, "set")
		commas(w, s.Sets, func(a api.Assign) {
			w.say(a.Name, "=")
			expr(a.Expr)
		})
		where()
	case api.Delete:
		w.say("delete", "from", s.Name)
		where()
	case api.CreateTable:
		w.say("create", "table", s.Name, "(")
		commas(w, s.Columns, func(c api.Column) {
			w.say(c.Name, map[api.Kind]string{api.Int: "int", api.Text: "text", api.Bool: "bool"}[c.Kind])
			if c.NotNull {
				w.say("not", "null")
			}
		})
		w.say(",", "primary", "key", "(")
		commas(w, s.Key, name)
		w.say(")", ")")
	case api.CreateIndex:
		w.say("create")
		if s.Unique {
			w.say("unique")
		}
		w.say("index", s.Name, "on", s.Table, "(")
		commas(w, s.Names, name)
		w.say(")")
	case api.Begin:
		w.say("begin")
	case api.Commit:
		w.say("commit")
	case api.Rollback:
		w.say("rollback")
	case api.Savepoint:
		w.say("savepoint", s.Name)
	case api.RollbackTo:
		w.say("rollback", "to", s.Name)
	}
	return *w
}

// written are the words as a text, with blanks and capital letters as v likes; with one blank each, if there is no v.
func (w words) written(v *vary) string {
	if v == nil {
		return strings.Join(w, " ")
	}
	blanks := []string{" ", "  ", "\t", "\n", "\r\n", " \t\n"}
	var b strings.Builder
	for i, word := range w {
		if i > 0 && (!parts(w[i-1], word) || v.Intn(2) == 0) || v.Intn(8) == 0 {
			b.WriteString(blanks[v.Intn(len(blanks))])
		}
		switch {
		case word[0] == '\'':
		case v.Intn(4) == 0:
			word = strings.ToUpper(word)
		case v.Intn(4) == 0:
			word = strings.ToUpper(word[:1]) + word[1:]
		case v.Intn(4) == 0 && '0' <= word[0] && word[0] <= '9':
			word = "00" + word
		}
		b.WriteString(word)
	}
	return b.String()
}

// parts says whether both are tokens of their own with no blank between them.
func parts(a, b string) bool {
	l, _ := lexer.Lex(a + b)
	return len(l) == 2 && l[1].At == len(a)
}

// maker makes expressions and statements; with over, sometimes with a list that is one too long.
type maker struct {
	*rand.Rand
	over bool
}

func newMaker(seed int64) *maker { return &maker{rand.New(rand.NewSource(seed)), false} }

func (m *maker) name() string {
	l := []string{"a", "b", "c", "t", "u", "x", "_", "a1", "selected", "inner", "z_9", strings.Repeat("n", 32), "_" + strings.Repeat("0", 31)}
	return l[m.Intn(len(l))]
}

func (m *maker) names(most int) []string {
	var l []string
	for range m.some(most) {
		l = append(l, m.name())
	}
	return l
}

// some is how many of at most so many.
func (m *maker) some(most int) int {
	switch {
	case m.over && m.Intn(10) == 0:
		return most + 1
	case m.Intn(30) == 0:
		return most
	}
	return 1 + m.Intn(min(3, most))
}

func (m *maker) leaf() api.Expr {
	ints := []int64{0, 1, 7, 10, 1 << 31, 1 << 62, 1<<63 - 1, -1, -7, -1 << 62, -1 << 63}
	texts := []string{"", "a", "'", "''", "it's", "select", "(", "é世😀", "-- a", strings.Repeat("'", 64), strings.Repeat("x", 64), "\x00\n"}
	switch m.Intn(7) {
	case 0, 1:
		return num(ints[m.Intn(len(ints))])
	case 2:
		return text(texts[m.Intn(len(texts))])
	case 3:
		return []api.Expr{yes(), no(), null()}[m.Intn(3)]
	case 4:
		return col(m.name(), m.name())
	case 5:
		return do(api.OpCountAll)
	}
	return col(m.name())
}

// expr is an expression of about so many operations.
func (m *maker) expr(size int) api.Expr {
	if size <= 0 {
		return m.leaf()
	}
	switch m.Intn(3) {
	case 0:
		ofOne := []api.Op{api.OpNot, api.OpNeg, api.OpIsNull, api.OpNotNull, api.OpCount, api.OpSum, api.OpMin, api.OpMax, api.OpNot, api.OpNeg, api.OpNeg}
		return do(ofOne[m.Intn(len(ofOne))], m.expr(size-1))
	}
	left := m.Intn(size)
	return do(api.OpAdd+api.Op(m.Intn(int(api.OpOr-api.OpAdd)+1)), m.expr(left), m.expr(size-1-left))
}

func (m *maker) anyExpr() api.Expr { return m.expr(m.Intn(6)) }

func (m *maker) stmt() api.Stmt {
	s := api.Stmt{Kind: api.Select + api.StmtKind(m.Intn(int(api.RollbackTo)))}
	if m.Intn(2) == 0 {
		s.Kind = api.Select
	}
	if (s.Kind == api.Select || s.Kind == api.Update || s.Kind == api.Delete) && m.Intn(2) == 0 {
		s.Where = m.anyExpr()
	}
	switch s.Kind {
	case api.Select:
		m.fillSelect(&s)
	case api.Insert:
		s.Name = m.name()
		if m.Intn(2) == 0 {
			s.Names = m.names(12)
		}
		for range m.some(64) {
			var row []api.Expr
			for range m.some(12) {
				row = append(row, m.expr(m.Intn(3)))
			}
			s.Rows = append(s.Rows, row)
		}
	case api.Update:
		s.Name = m.name()
		for range m.some(12) {
			s.Sets = append(s.Sets, api.Assign{Name: m.name(), Expr: m.anyExpr()})
		}
	case api.CreateTable:
		s.Name, s.Key = m.name(), m.names(4)
		for range m.some(12) {
			s.Columns = append(s.Columns, api.Column{Name: m.name(), Kind: api.Bool + api.Kind(m.Intn(3)), NotNull: m.Intn(2) == 0})
		}
	case api.CreateIndex:
		s.Name, s.Table, s.Names, s.Unique = m.name(), m.name(), m.names(4), m.Intn(2) == 0
	case api.Delete, api.Savepoint, api.RollbackTo:
		s.Name = m.name()
	}
	return s
}

func (m *maker) fillSelect(s *api.Stmt) {
	for range m.some(32) {
		i := api.Item{All: m.Intn(5) == 0}
		if !i.All {
			i.Expr = m.anyExpr()
			if m.Intn(2) == 0 {
				i.As = m.name()
			}
		}
		s.Items = append(s.Items, i)
	}
	for range m.some(4) {
		from := source(m.name())
		if m.Intn(2) == 0 {
			from.As = m.name()
		}
		if s.From != nil {
			from.On = m.anyExpr()
		}
		s.From = append(s.From, from)
	}
	for range m.Intn(2) * m.some(32) {
		s.Group = append(s.Group, []api.Expr{col(m.name()), col(m.name(), m.name())}[m.Intn(2)])
	}
	for range m.Intn(2) * m.some(32) {
		s.Order = append(s.Order, api.Order{Expr: m.anyExpr(), Desc: m.Intn(2) == 0})
	}
	s.Limit = []int{-1, -1, 0, 1, 10, 1 << 30}[m.Intn(6)]
}
