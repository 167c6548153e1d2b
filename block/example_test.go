package block_test

import (
	"fmt"

	"stagepost/api"
	"stagepost/block"
)

func Example() {
	l := []api.Entry{{Key: "ab", Seq: 3, Value: "x"}, {Key: "ab", Seq: 1, Del: true}, {Key: "abc", Seq: 2, Value: "y"}}
	b, _ := block.Encode(l)
	fmt.Println(b)
	back, e := block.Decode(b)
	fmt.Println(len(back), e == api.OK)
	_, e = block.Decode(b[:len(b)-1])
	fmt.Println(e == api.ErrBad)
	// At the Seq 2 the key ab is deleted.
	x, ok := block.Find(l, "ab", 2)
	fmt.Println(x.Del, ok)
	fmt.Println(block.Visible(l, api.Span{From: "ab"}, 3))
	// A newer list over this one, and what is left of both, if nobody asks for what was.
	all, _ := block.Merge([][]api.Entry{{{Key: "abc", Seq: 4, Del: true}}, l})
	fmt.Println(all)
	fmt.Println(block.Fold(all, nil, false))
	fmt.Println(block.Fold(all, nil, true))
	fmt.Println(block.Fold(all, []int{2}, true))
	// Output:
	// [3 0 2 97 98 3 0 1 120 2 0 1 1 2 1 99 2 0 1 121]
	// 3 true
	// true
	// true true
	// [{ab x 3 false} {abc y 2 false}]
	// [{ab x 3 false} {ab  1 true} {abc  4 true} {abc y 2 false}]
	// [{ab x 3 false} {abc  4 true}]
	// [{ab x 3 false}]
	// [{ab x 3 false} {abc  4 true} {abc y 2 false}]
}
