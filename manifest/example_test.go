package manifest_test

import (
	"fmt"

	"stagepost/api"
	"stagepost/manifest"
	"stagepost/vfs"
)

func Example() {
	f, _ := vfs.New(10000)
	m, e := manifest.Open(f)
	fmt.Println(m.Version(), m.File(), e == api.OK)
	// A table of the level 0 comes, and what it holds is not needed in the log any more.
	table := api.Meta{Number: 1, Level: 0, Count: 3, First: "a", Last: "c"}
	fmt.Println(m.Add(api.Edit{Adds: []api.Meta{table}, Log: 2, Seq: 5, Next: 2}) == api.OK)
	// Another one takes its place, on the next level; the power goes in the midst of that edit.
	next := api.Edit{Drops: []int{1}, Adds: []api.Meta{{Number: 2, Level: 1, Count: 2, First: "a", Last: "c"}}, Log: 2, Seq: 5, Next: 3}
	f.Fuse(1)
	fmt.Println(m.Add(next) == api.ErrOff)
	f.Crash(0, 9)
	fmt.Println(m.Add(next) == api.ErrOff, m.Version())
	// Opened again, it knows the version that was acknowledged, in a file of its own.
	m, e = manifest.Open(f)
	fmt.Println(m.Version(), m.File(), e == api.OK)
	fmt.Println(m.Add(next) == api.OK, m.Version())
	fmt.Println(f.Names())
	// Output:
	// {[] 1 0 1} manifest-000001 true
	// true
	// true
	// true {[{1 0 3 a c}] 2 5 2}
	// {[{1 0 3 a c}] 2 5 2} manifest-000002 true
	// true {[{2 1 2 a c}] 2 5 3}
	// [current manifest-000002]
}
