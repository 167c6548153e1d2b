package enc_test

import (
	"fmt"

	"stagepost/api"
	"stagepost/enc"
)

func Example() {
	l := []api.Value{{Kind: api.Int, Int: 7}, {Kind: api.Text, Text: "a"}}
	key, e := enc.Tuple(l)
	fmt.Println([]byte(key), e == api.OK)
	span, e := enc.Begins(l[:1])
	fmt.Println(enc.In(key, span), e == api.OK)
	back, e := enc.Values(key)
	fmt.Println(enc.Compare(back, l), e == api.OK)
	// Output:
	// [3 128 0 0 0 0 0 0 7 4 97 0 1] true
	// true true
	// 0 true
}
