package check_test

import (
	"fmt"

	"stagepost/api"
	"stagepost/catalog"
	"stagepost/check"
	"stagepost/parser"
)

func Example() {
	c, _ := catalog.Of("CREATE TABLE t (a INT, b TEXT, PRIMARY KEY (a))")
	s, _ := parser.Parse("SELECT *, b || '!' FROM t AS x WHERE a > 1")
	bound, e := check.Bind(c, s)
	for _, item := range bound.Items {
		fmt.Printf("%q %q %q %d %t\n", item.As, item.Expr.Table, item.Expr.Name, item.Expr.Slot, item.Expr.Kind == api.Int)
	}
	fmt.Println(bound.Where.Kind == api.Bool, e == api.OK)
	slots, e := check.Slots(c, s)
	fmt.Println(slots[0].Name, slots[1].Name, e == api.OK)
	s, _ = parser.Parse("INSERT INTO t (b) VALUES ('x')")
	bound, e = check.Bind(c, s)
	fmt.Println(bound.Names, bound.Rows[0][0].Value.Kind == api.Null, bound.Rows[0][1].Value.Text, e == api.OK)
	s, _ = parser.Parse("SELECT a + b FROM t")
	_, e = check.Bind(c, s)
	fmt.Println(e == api.ErrType)
	// Output:
	// "a" "x" "a" 0 true
	// "b" "x" "b" 1 false
	// "" "" "" 0 false
	// true true
	// a b true
	// [a b] true x true
	// true
}
