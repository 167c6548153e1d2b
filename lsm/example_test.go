package lsm_test

import (
	"fmt"

	"stagepost/api"
	"stagepost/lsm"
	"stagepost/vfs"
)

func Example() {
	f, _ := vfs.New(100000)
	set := api.Settings{Per: 2, Bits: 10, Top: 2, Most: 4}
	s, e := lsm.Open(f, set)
	fmt.Println(e == api.OK)
	s.Apply([]api.Write{{Key: "a", Value: "1"}, {Key: "b", Value: "1"}})
	s.Apply([]api.Write{{Key: "a", Del: true}, {Key: "c", Value: "2"}})
	// What was done ahead of a batch can be asked for still.
	fmt.Println(s.Get("a", 1))
	fmt.Println(s.Get("a", 2))
	// Out of the log into a table, and out of that into one of the next level, without what nobody asks for any more.
	fmt.Println(s.Flush() == api.OK, s.Tables())
	fmt.Println(s.Compact(0) == api.OK, s.Tables())
	_, _, e = s.Get("a", 1)
	fmt.Println(e == api.ErrStale)
	// The power goes in the midst of a batch: the store stops. Opened again, it has all that it answered.
	f.Fuse(1)
	_, e = s.Apply([]api.Write{{Key: "d", Value: "3"}})
	fmt.Println(e == api.ErrOff, s.Stopped() == api.ErrOff)
	f.Crash(0, 9)
	s, e = lsm.Open(f, set)
	fmt.Println(e == api.OK, s.Seq())
	l, e := s.Scan(api.Span{}, 2, 9)
	fmt.Println(l, e == api.OK)
	// Output:
	// true
	// 1 true stagepost: refused, 0
	//  false stagepost: refused, 0
	// true [{1 0 4 a c}]
	// true [{2 1 2 b c}]
	// true
	// true true
	// true 2
	// [{b 1} {c 2}] true
}
