package catalog_test

import (
	"fmt"

	"stagepost/api"
	"stagepost/catalog"
	"stagepost/enc"
)

func Example() {
	c, fault := catalog.Of("CREATE TABLE t (a INT, b TEXT, PRIMARY KEY (a)); CREATE INDEX i ON t (b);")
	fmt.Println(len(c.Tables), fault.Err == api.OK)
	text, e := catalog.Text(c)
	fmt.Print(text)
	t, ok := catalog.Find(c, "t")
	row := []api.Value{{Kind: api.Int, Int: 7}, {Kind: api.Text, Text: "x"}}
	kv, e := catalog.Row(t, row)
	entries, e := catalog.Entries(t, row)
	key, e := catalog.Points(t, 1, entries[0])
	fmt.Println(ok, key == kv.Key, e == api.OK)
	back, e := catalog.Unrow(t, kv)
	fmt.Println(enc.Compare(back, row), e == api.OK)
	span, e := catalog.Begins(t, 1, row[1:])
	fmt.Println(enc.In(entries[0].Key, span), enc.In(kv.Key, span), e == api.OK)
	row[0] = api.Value{}
	fmt.Println(catalog.Fits(t, row) == api.ErrNotNull)
	_, fault = catalog.Of(text + "delete from t")
	fmt.Println(fault.Err == api.ErrArg, fault.At)
	// Output:
	// 1 true
	// create table t ( a int , b text , primary key ( a ) ) ;
	// create index i on t ( b ) ;
	// true true true
	// 0 true
	// true false true
	// true
	// true 2
}
