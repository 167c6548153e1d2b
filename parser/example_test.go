package parser_test

import (
	"fmt"

	"stagepost/api"
	"stagepost/parser"
)

func Example() {
	s, fault := parser.Parse("SELECT a, (b+1)*2 AS c FROM t WHERE NOT (a=1 AND b IS NULL) LIMIT 3;")
	fmt.Println(fault.Err == api.OK, s.Kind == api.Select, len(s.Items), s.From[0].Table, s.Limit)
	text, e := parser.Print(s)
	fmt.Println(text, e == api.OK)
	_, fault = parser.Parse("select a from")
	fmt.Println(fault.Err == api.ErrSyntax, fault.At)
	l, fault := parser.Script("begin; delete from t where a = 1;; commit;")
	fmt.Println(len(l), fault.Err == api.OK)
	x, fault := parser.Expr("a - b - -5")
	y, _ := parser.Expr("((A - B) - -5)")
	fmt.Println(x.Args[0].Op == api.OpSub, x.Args[1].Value.Int, parser.SameExpr(x, y))
	x.Args[1].Value.Int = 5
	text, e = parser.PrintExpr(api.Expr{Op: api.OpNeg, Args: []api.Expr{x}})
	fmt.Println(text, e == api.OK)
	s.Items[0].As = "select" // no name
	text, e = parser.Print(s)
	fmt.Println(text == "", e == api.ErrArg)
	// Output:
	// true true 2 t 3
	// select a , ( b + 1 ) * 2 as c from t where not ( a = 1 and b is null ) limit 3 true
	// true 13
	// 3 true
	// true -5 true
	// - ( a - b - 5 ) true
	// true true
}
