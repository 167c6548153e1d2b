package sst_test

import (
	"fmt"

	"stagepost/api"
	"stagepost/crc"
	"stagepost/sst"
)

func Example() {
	l := []api.Entry{{Key: "a", Seq: 1, Value: "x"}, {Key: "b", Seq: 5, Del: true}, {Key: "b", Seq: 2, Value: "y"}, {Key: "c", Seq: 3, Value: "z"}}
	// Two entries a block, ten bits a key.
	b, _ := sst.Build(l, 2, 10)
	t, e := sst.Open(b)
	fmt.Println(t.Len(), t.Blocks(), t.Last(), t.Reads(), e == api.OK)
	// The version of b that is visible at 4 stands in the second block.
	x, ok, _ := t.Get("b", 4)
	fmt.Println(x, ok, t.Reads())
	// The filter knows that there is no such key.
	_, ok, _ = t.Get("bb", 4)
	fmt.Println(ok, t.Reads())
	some, _ := t.Scan(api.Span{From: "a", To: "c"})
	fmt.Println(some, t.Reads())
	// A bit of the first block is turned: what stands in the second one can still be told.
	turned, _ := crc.Burst(b, 100, 1)
	t, e = sst.Open(turned)
	fmt.Println(e == api.OK)
	x, ok, e = t.Get("a", 9)
	fmt.Println(x, ok, e == api.ErrCorrupt)
	x, ok, e = t.Get("c", 9)
	fmt.Println(x, ok, e == api.OK)
	_, e = t.All()
	fmt.Println(e == api.ErrCorrupt, t.Reads())
	_, e = sst.Open(b[:len(b)-1])
	fmt.Println(e == api.ErrCorrupt)
	// Output:
	// 4 2 c 0 true
	// {b y 2 false} true 1
	// false 1
	// [{a x 1 false} {b  5 true} {b y 2 false}] 3
	// true
	// {  0 false} false true
	// {c z 3 false} true true
	// true 3
	// true
}
