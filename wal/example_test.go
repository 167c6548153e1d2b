package wal_test

import (
	"fmt"

	"stagepost/api"
	"stagepost/vfs"
	"stagepost/wal"
)

func Example() {
	f, _ := vfs.New(10000)
	w, l, e := wal.Open(f, 1, 0)
	fmt.Println(len(l), e == api.OK, w.Seq(), w.Segment())
	seq, e := w.Append([]api.Write{{Key: "a", Value: "1"}, {Key: "b", Value: "2"}})
	fmt.Println(seq, e == api.OK)
	fmt.Println(w.Roll() == api.OK, w.Segment())
	// The power goes in the midst of the next batch: it is lost, and the wal is broken.
	f.Fuse(1)
	seq, e = w.Append([]api.Write{{Key: "a", Del: true}})
	fmt.Println(seq, e == api.ErrOff)
	f.Crash(0, 5)
	fmt.Println(w.Roll() == api.ErrOff)
	// Opened again, there is the batch that was acknowledged, and no part of the other one.
	w, l, e = wal.Open(f, 1, 0)
	fmt.Println(l, e == api.OK, w.Seq(), w.Segment())
	// Once its batches are kept elsewhere, a segment goes.
	fmt.Println(w.Drop(2) == api.OK, f.Names())
	// Output:
	// 0 true 0 1
	// 1 true
	// true 2
	// 0 true
	// true
	// [{1 [{a 1 false} {b 2 false}]}] true 1 3
	// true [wal-000002 wal-000003]
}
