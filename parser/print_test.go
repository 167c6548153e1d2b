package parser

import (
	"math"
	"reflect"
	"slices"
	"strings"
	"testing"

	"stagepost/api"
)

// pieces of a statement that its kind has.
func has(k api.StmtKind) []string {
	switch k {
	case api.Select:
		return names("Items", "From", "Where", "Group", "Order", "Limit")
	case api.Insert:
		return names("Name", "Names", "Rows")
	case api.Update:
		return names("Name", "Sets", "Where")
	case api.Delete:
		return names("Name", "Where")
	case api.CreateTable:
		return names("Name", "Columns", "Key")
	case api.CreateIndex:
		return names("Name", "Table", "Unique", "Names")
	case api.Savepoint, api.RollbackTo:
		return names("Name")
	}
	return nil
}

// donor has each piece of each kind.
func donor() api.Stmt {
	return api.Stmt{
		Name: "n", Table: "t", Columns: []api.Column{{Name: "a", Kind: api.Int}}, Key: names("a"), Unique: true, Names: names("a"), Rows: [][]api.Expr{{a()}},
		Items: items(a()), From: []api.Source{source("t")}, Where: a(), Group: exprs(a()), Order: []api.Order{{Expr: a()}}, Limit: 1, Sets: []api.Assign{{Name: "a", Expr: a()}},
	}
}

// TestPrintOfPiecesOfAnotherKind: a statement that has one is told by no text.
func TestPrintOfPiecesOfAnotherKind(t *testing.T) {
	other := reflect.ValueOf(donor())
	for _, said := range full() {
		s := mustParse(t, said)
		for i := range other.NumField() {
			name := other.Type().Field(i).Name
			if name == "Kind" || slices.Contains(has(s.Kind), name) {
				continue
			}
			with := s
			reflect.ValueOf(&with).Elem().Field(i).Set(other.Field(i))
			refuses(t, with)
		}
		for k := range 256 {
			with := s
			with.Kind = api.StmtKind(k)
			_, e := Print(with)
			fits := with.Kind == s.Kind
			if len(has(s.Kind)) == 0 { // BEGIN, COMMIT, ROLLBACK
				fits = with.Kind == api.Begin || with.Kind == api.Commit || with.Kind == api.Rollback
			}
			if slices.Equal(has(s.Kind), names("Name")) { // SAVEPOINT, ROLLBACK TO; a DELETE without a condition
				fits = slices.Contains([]api.StmtKind{api.Savepoint, api.RollbackTo, api.Delete}, with.Kind)
			}
			if s.Kind == api.Delete && s.Where.Op == api.OpNone {
				fits = slices.Contains([]api.StmtKind{api.Savepoint, api.RollbackTo, api.Delete}, with.Kind)
			}
			if fits != (e == api.OK) || !fits && e != api.ErrArg {
				t.Errorf("Print of %q with the kind %d: %v", said, k, e)
			}
		}
	}
	refuses(t, api.Stmt{})
	refuses(t, api.Stmt{Kind: api.RollbackTo + 1})
	refuses(t, api.Stmt{Kind: 255})
	refuses(t, donor())
}

// TestPrintOfMissingPieces: a statement that lacks one that may not be left out.
func TestPrintOfMissingPieces(t *testing.T) {
	for _, said := range full() {
		s := mustParse(t, said)
		for _, name := range has(s.Kind) {
			without := s
			field := reflect.ValueOf(&without).Elem().FieldByName(name)
			field.SetZero()
			_, e := Print(without)
			mayGo := slices.Contains(names("Where", "Group", "Order", "Limit", "Unique"), name) || name == "Names" && s.Kind == api.Insert
			if mayGo != (e == api.OK) || !mayGo && e != api.ErrArg {
				t.Errorf("Print of %q without %s: %v", said, name, e)
			}
		}
	}
}

// fields goes over all fields of a statement, in it and in its lists; each may be set.
func fields(v reflect.Value, path string, do func(reflect.Value, string)) {
	switch v.Kind() {
	case reflect.Struct:
		for i := range v.NumField() {
			fields(v.Field(i), path+"."+v.Type().Field(i).Name, do)
		}
	case reflect.Slice:
		for i := range v.Len() {
			fields(v.Index(i), path+"[]", do)
		}
		do(v, path)
	default:
		do(v, path)
	}
}

// with sets a field for a while.
func with(field, to reflect.Value, do func()) {
	was := reflect.New(field.Type()).Elem()
	was.Set(field)
	field.Set(to)
	do()
	field.Set(was)
}

// TestPrintOfSlotsAndKinds that are not 0, in each expression and each assignment.
func TestPrintOfSlotsAndKinds(t *testing.T) {
	done := 0
	for _, said := range full() {
		s := mustParse(t, said)
		fields(reflect.ValueOf(&s).Elem(), "", func(v reflect.Value, path string) {
			isSlot := strings.HasSuffix(path, ".Slot")
			isKind := strings.HasSuffix(path, ".Kind") && v.Type() == reflect.TypeFor[api.Kind]() && !strings.Contains(path, "Columns") && !strings.Contains(path, ".Value.")
			for _, to := range []int{1, -1, 3, 255} {
				if isSlot || isKind && to > 0 {
					done++
					with(v, reflect.ValueOf(to).Convert(v.Type()), func() { refuses(t, s) })
				}
			}
		})
		if _, e := Print(s); e != api.OK {
			t.Errorf("Print of %q: %v", said, e)
		}
	}
	if done < 300 {
		t.Errorf("%d alone were set", done)
	}
	refusesExpr(t, api.Expr{Op: api.OpName, Name: "a", Slot: 1})
	refusesExpr(t, api.Expr{Op: api.OpName, Name: "a", Kind: api.Int})
	refusesExpr(t, api.Expr{Op: api.OpValue, Kind: api.Bool})
}

// TestPrintOfNamesThatAreNone, at each place of a name.
func TestPrintOfNamesThatAreNone(t *testing.T) {
	wrong := names("select", "as", "true", "count", "where", "key", "A", "aB", "1", "1a", "a b", " a", "a ", "a.b", "a . b", "a,b", "a , b", "(", "*", "'a'", "-", "é", "a\xff", "\x00", "a;", "a ; begin", "a --", strings.Repeat("a", 33), strings.Repeat("a", 70000))
	done := 0
	for _, said := range full() {
		s := mustParse(t, said)
		fields(reflect.ValueOf(&s).Elem(), "", func(v reflect.Value, path string) {
			if v.Kind() != reflect.String || strings.HasSuffix(path, ".Value.Text") {
				return
			}
			for _, name := range wrong {
				done++
				with(v, reflect.ValueOf(name), func() { refuses(t, s) })
			}
			if v.String() != "" {
				with(v, reflect.ValueOf("other_1"), func() {
					if told, e := Print(s); e != api.OK || !strings.Contains(told, "other_1") {
						t.Errorf("Print of %q with another name at %s: %q, %v", said, path, told, e)
					}
				})
			}
		})
	}
	if done < 1000 {
		t.Errorf("%d names alone were set", done)
	}
	for _, name := range wrong {
		refusesExpr(t, col(name))
		refusesExpr(t, col(name, "a"))
		refusesExpr(t, col("a", name))
		refuses(t, api.Stmt{Kind: api.Savepoint, Name: name})
	}
	refusesExpr(t, col(""))
	refusesExpr(t, col("t", ""))
	refuses(t, api.Stmt{Kind: api.Savepoint})
	refuses(t, api.Stmt{Kind: api.RollbackTo})
}

// TestPrintOfListsThatAreTooLong, or that have nothing.
func TestPrintOfListsThatAreTooLong(t *testing.T) {
	for _, l := range allLimited() {
		s := mustParse(t, l.of(l.most)+l.behind)
		fields(reflect.ValueOf(&s).Elem(), "", func(v reflect.Value, path string) {
			if v.Kind() != reflect.Slice || v.Len() != l.most || strings.Contains(path, "Args") {
				return
			}
			longer := reflect.AppendSlice(reflect.MakeSlice(v.Type(), 0, 0), v)
			longer = reflect.Append(longer, v.Index(0))
			with(v, longer, func() { refuses(t, s) })
			long := longer
			for range 5 {
				long = reflect.AppendSlice(long, long)
			}
			with(v, long, func() { refuses(t, s) })
		})
	}
	s := mustParse(t, "select a from t join t on a join t on a join t on a")
	s.From = append(s.From, s.From[1])
	refuses(t, s)
	for _, said := range full() {
		s := mustParse(t, said)
		fields(reflect.ValueOf(&s).Elem(), "", func(v reflect.Value, path string) {
			if v.Kind() != reflect.Slice || v.Len() == 0 {
				return
			}
			for _, none := range []reflect.Value{reflect.Zero(v.Type()), reflect.MakeSlice(v.Type(), 0, 3)} {
				mayGo := path == ".Group" || path == ".Order" || path == ".Names" && s.Kind == api.Insert
				with(v, none, func() {
					if _, e := Print(s); mayGo != (e == api.OK) || !mayGo && e != api.ErrArg {
						t.Errorf("Print of %q with nothing at %s: %v", said, path, e)
					}
				})
			}
		})
	}
}

// TestPrintOfEmptyListsInsteadOfNone: they are the same.
func TestPrintOfEmptyListsInsteadOfNone(t *testing.T) {
	for _, said := range full() {
		s := mustParse(t, said)
		want, e := Print(s)
		if e != api.OK {
			t.Fatalf("Print of %q: %v", said, e)
		}
		fields(reflect.ValueOf(&s).Elem(), "", func(v reflect.Value, _ string) {
			if v.Kind() == reflect.Slice && v.Len() == 0 {
				v.Set(reflect.MakeSlice(v.Type(), 0, 2))
			}
		})
		prints(t, want, s)
	}
}

func TestPrintOfOtherLimits(t *testing.T) {
	s := of1(func(*api.Stmt) {})
	for _, n := range []int{-2, -3, math.MinInt, 1<<30 + 1, 1 << 32, math.MaxInt} {
		s.Limit = n
		refuses(t, s)
	}
	for _, said := range full() {
		if s := mustParse(t, said); s.Kind != api.Select {
			for _, n := range []int{-1, 1, 1 << 30} {
				s.Limit = n
				refuses(t, s)
			}
		}
	}
}

// TestPrintOfPiecesThatNoTextGives, in their places.
func TestPrintOfPiecesThatNoTextGives(t *testing.T) {
	for _, change := range []func(*api.Stmt){
		func(s *api.Stmt) { s.Items[0].All = true },
		func(s *api.Stmt) { s.Items[0] = api.Item{} },
		func(s *api.Stmt) { s.Items[0] = api.Item{All: true, As: "b"} },
		func(s *api.Stmt) { s.Items[0] = api.Item{As: "b"} },
		func(s *api.Stmt) { s.From[0].On = yes() },
		func(s *api.Stmt) { s.From[0].On.Name = "a" },
		func(s *api.Stmt) { s.From = append(s.From, source("u")) },
		func(s *api.Stmt) { s.From[0].Table = "" },
		func(s *api.Stmt) { s.Where = api.Expr{Name: "a"} },
		func(s *api.Stmt) { s.Where = api.Expr{Args: exprs(a())} },
		func(s *api.Stmt) { s.Where = api.Expr{Value: api.Value{Kind: api.Bool, Int: 1}} },
		func(s *api.Stmt) { s.Where = api.Expr{Slot: 1} },
		func(s *api.Stmt) { s.Group = exprs(num(1)) },
		func(s *api.Stmt) { s.Group = exprs(do(api.OpAdd, a(), b())) },
		func(s *api.Stmt) { s.Group = exprs(do(api.OpCount, a())) },
		func(s *api.Stmt) { s.Group = exprs(null()) },
		func(s *api.Stmt) { s.Group = exprs(api.Expr{}) },
		func(s *api.Stmt) { s.Group = exprs(a(), do(api.OpNeg, a())) },
		func(s *api.Stmt) { s.Order = []api.Order{{}} },
		func(s *api.Stmt) { s.Order = []api.Order{{Desc: true}} },
	} {
		refuses(t, of1(change))
	}
	refuses(t, api.Stmt{Kind: api.Insert, Name: "t", Rows: [][]api.Expr{{api.Expr{}}}})
	refuses(t, api.Stmt{Kind: api.Insert, Name: "t", Rows: [][]api.Expr{{a()}, {}}})
	refuses(t, api.Stmt{Kind: api.Insert, Name: "t", Rows: [][]api.Expr{nil}})
	refuses(t, api.Stmt{Kind: api.Update, Name: "t", Sets: []api.Assign{{Name: "a"}}})
	refuses(t, api.Stmt{Kind: api.Update, Name: "t", Sets: []api.Assign{{Expr: a()}}})
	for _, k := range []api.Kind{api.Null, api.Text + 1, 255} {
		refuses(t, api.Stmt{Kind: api.CreateTable, Name: "t", Columns: []api.Column{{Name: "a", Kind: k}}, Key: names("a")})
	}
	prints(t, "create table t ( a text not null , primary key ( b ) )", api.Stmt{Kind: api.CreateTable, Name: "t", Columns: []api.Column{{Name: "a", Kind: api.Text, NotNull: true}}, Key: names("b")})
}

func TestPrintOfLiteralsThatNoTextSays(t *testing.T) {
	for _, v := range []api.Value{
		{Kind: api.Null, Int: 1}, {Kind: api.Null, Int: -1}, {Kind: api.Null, Text: "a"}, {Kind: api.Bool, Int: 2}, {Kind: api.Bool, Int: -1}, {Kind: api.Bool, Int: math.MinInt64}, {Kind: api.Bool, Text: "a"}, {Kind: api.Bool, Int: 1, Text: "true"},
		{Kind: api.Int, Int: 1, Text: "1"}, {Kind: api.Int, Int: -1, Text: "a"}, {Kind: api.Text, Int: 1}, {Kind: api.Text, Int: -1, Text: "a"}, {Kind: api.Text, Text: "\xff"}, {Kind: api.Text, Text: "a\xc3"}, {Kind: api.Text, Text: strings.Repeat("a", 65)}, {Kind: api.Text, Text: strings.Repeat("é", 33)},
		{Kind: 4}, {Kind: 4, Int: 1}, {Kind: 4, Text: "a"}, {Kind: 255, Int: -1},
	} {
		refusesExpr(t, of(v))
		refusesExpr(t, do(api.OpAdd, a(), of(v)))
		refusesExpr(t, do(api.OpNeg, of(v)))
		refusesExpr(t, do(api.OpCount, of(v)))
		refuses(t, of1(func(s *api.Stmt) { s.Items = items(of(v)) }))
		refuses(t, api.Stmt{Kind: api.Insert, Name: "t", Rows: [][]api.Expr{{num(1), of(v)}}})
	}
}

// TestPrintOfExpressionsThatMayNotBe: operations that are none, or not of so many, and pieces that theirs do not have.
func TestPrintOfExpressionsThatMayNotBe(t *testing.T) {
	takes := map[api.Op]int{api.OpValue: 0, api.OpName: 0, api.OpCountAll: 0, api.OpNot: 1, api.OpNeg: 1, api.OpIsNull: 1, api.OpNotNull: 1, api.OpCount: 1, api.OpSum: 1, api.OpMin: 1, api.OpMax: 1}
	for op := api.OpAdd; op <= api.OpOr; op++ {
		takes[op] = 2
	}
	for op := range 256 {
		for n := range 5 {
			x := do(api.Op(op), exprs(a(), b(), c(), a())[:n]...)
			if x.Op == api.OpName {
				x.Name = "a"
			}
			if most, ok := takes[x.Op]; ok && n == most {
				if _, e := PrintExpr(x); e != api.OK {
					t.Errorf("PrintExpr of %+v: %v", x, e)
				}
				with := x
				with.Value.Int++
				if x.Op != api.OpValue {
					refusesExpr(t, with)
				}
				with = x
				with.Value.Kind = api.Text
				if x.Op != api.OpValue {
					refusesExpr(t, with)
				}
				with = x
				with.Table = "t"
				if x.Op != api.OpName {
					refusesExpr(t, with)
				}
				with = x
				with.Name = "b"
				if x.Op != api.OpName {
					refusesExpr(t, with)
				}
				continue
			}
			refusesExpr(t, x)
			refusesExpr(t, do(api.OpNot, x))
			refusesExpr(t, do(api.OpCount, x))
			refusesExpr(t, do(api.OpSub, a(), x))
			refusesExpr(t, do(api.OpSub, x, a()))
			refuses(t, of1(func(s *api.Stmt) { s.Items = items(x) }))
			if x.Op != api.OpNone || n > 0 {
				refuses(t, of1(func(s *api.Stmt) { s.Where = x }))
			}
		}
	}
	refusesExpr(t, api.Expr{})
	refusesExpr(t, do(api.OpOr, a(), b(), c()))
	refusesExpr(t, do(api.OpNot, exprs(slices.Repeat(exprs(a()), 1000)...)...))
}

// TestPrintOfTextsThatWouldBeTooLong: no text is longer than one that may be read.
func TestPrintOfTextsThatWouldBeTooLong(t *testing.T) {
	row := slices.Repeat(exprs(text(strings.Repeat("x", 64))), 12)
	s := api.Stmt{Kind: api.Insert, Name: "t", Rows: slices.Repeat([][]api.Expr{row}, 64)}
	if told, e := Print(s); e != api.OK || len(told) < 50000 {
		t.Errorf("Print of 64 rows: %d bytes, %v", len(told), e)
	}
	row = slices.Repeat(exprs(text(strings.Repeat("'", 64))), 12)
	s.Rows = slices.Repeat([][]api.Expr{row}, 64)
	refuses(t, s)
	// 65,536 bytes are not too long.
	x := a()
	for range 16383 {
		x = do(api.OpAdd, x, a())
	}
	told, e := PrintExpr(do(api.OpOr, x, col("bbb"))) // or bbb, and the blanks
	if e != api.ErrArg || told != "" {
		t.Errorf("PrintExpr of 65,540 bytes: %d bytes, %v", len(told), e)
	}
	told, e = PrintExpr(x)
	if e != api.OK || len(told) != 65533 {
		t.Errorf("PrintExpr of 65,533 bytes: %d bytes, %v", len(told), e)
	}
	for n := range 6 {
		y := x
		z := &y
		for len(z.Args) > 0 {
			z.Args = slices.Clone(z.Args)
			z = &z.Args[0]
		}
		z.Name = strings.Repeat("a", 1+n)
		told, e = PrintExpr(y)
		if want := n <= 3; want != (e == api.OK) || want && len(told) != 65533+n {
			t.Errorf("PrintExpr of %d bytes: %d bytes, %v", 65533+n, len(told), e)
		}
	}
}

// TestPrintEnds at expressions that go on without an end, and at those of very many.
func TestPrintEnds(t *testing.T) {
	for _, op := range []api.Op{api.OpNot, api.OpNeg, api.OpCount, api.OpIsNull} {
		l := make([]api.Expr, 1)
		l[0] = do(op, l...)
		l[0].Args = l
		refusesExpr(t, l[0])
		refuses(t, of1(func(s *api.Stmt) { s.Where = l[0] }))
	}
	for _, op := range []api.Op{api.OpAnd, api.OpSub, api.OpEq} {
		l := make([]api.Expr, 2)
		l[0] = api.Expr{Op: op, Args: l}
		l[1] = l[0]
		refusesExpr(t, l[0])
	}
	x := a()
	for range 60 {
		x = do(api.OpAdd, x, x)
	}
	refusesExpr(t, x)
	refuses(t, of1(func(s *api.Stmt) { s.Items = slices.Repeat(items(x), 1000) }))
	y := a()
	for range 60000 {
		y = do(api.OpNot, y)
	}
	refusesExpr(t, y)
	if !SameExpr(y, y) || SameExpr(y, y.Args[0]) {
		t.Error("SameExpr of a deep one")
	}
	many := slices.Repeat(exprs(a()), 1<<18)
	refuses(t, api.Stmt{Kind: api.Insert, Name: "t", Rows: [][]api.Expr{many}})
}

func TestPrintLeavesOutWhatSaysNothing(t *testing.T) {
	for s, want := range map[string]string{
		"SELECT A AS B FROM T AS U ORDER BY A ASC LIMIT 005;":  "select a as b from t as u order by a limit 5",
		"select(a),((b)),-(5),(-5),((a)+(b)) from t":           "select a , b , - ( 5 ) , - 5 , a + b from t",
		"insert into t values(((1)));":                         "insert into t values ( 1 )",
		"update t set a=(a=b)where(((a)))":                     "update t set a = a = b where a",
		"rollback to\n\ts ;":                                   "rollback to s",
		"create table t(a int not null,primary key(a));":       "create table t ( a int not null , primary key ( a ) )",
		"select count(((a))) , count(*) from t":                "select count ( a ) , count ( * ) from t",
		"select NULL , True , 'True' from t where NOT(NOT(a))": "select null , true , 'True' from t where not not a",
	} {
		prints(t, want, mustParse(t, s))
	}
}
