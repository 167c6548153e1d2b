package vfs_test

import (
	"fmt"

	"stagepost/api"
	"stagepost/vfs"
)

func Example() {
	f, e := vfs.New(100)
	fmt.Println(e == api.OK, f.Create("a") == api.OK, f.Append("a", []byte("xy")) == api.OK, f.SyncNames() == api.OK)
	// The power goes in the midst of the write.
	f.Crash(0, 1)
	b, e := f.Read("a")
	fmt.Println(string(b), e == api.OK)
	// One raw step is done, the next one isn't.
	f.Fuse(1)
	fmt.Println(f.Create("c") == api.OK, f.SyncNames() == api.ErrOff, f.On())
	f.Crash(9, 9)
	fmt.Println(f.On(), f.Names())
	// Output:
	// true true true true
	// x true
	// true true false
	// true [a c]
}
