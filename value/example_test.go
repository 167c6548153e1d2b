package value_test

import (
	"fmt"

	"stagepost/api"
	"stagepost/value"
)

func Example() {
	seven, two := api.Value{Kind: api.Int, Int: -7}, api.Value{Kind: api.Int, Int: 2}
	rest, e := value.Do(api.OpMod, seven, two)
	fmt.Println(rest.Int, e == api.OK)
	less, e := value.Do(api.OpLt, seven, two)
	fmt.Println(value.True(less), e == api.OK)
	unknown, e := value.Do(api.OpAnd, less, api.Value{})
	fmt.Println(unknown.Kind == api.Null, e == api.OK)
	kind, e := value.Gives(api.OpJoin, api.Text, api.Null)
	fmt.Println(kind == api.Text, e == api.OK)
	_, e = value.Gives(api.OpJoin, api.Text, api.Int)
	fmt.Println(e == api.ErrType)
	text, e := value.Literal(api.Value{Kind: api.Text, Text: "it's"})
	fmt.Println(text, e == api.OK)
	// Output:
	// -1 true
	// true true
	// true true
	// true true
	// true
	// 'it''s' true
}
