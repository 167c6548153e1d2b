package frame_test

import (
	"fmt"

	"stagepost/api"
	"stagepost/frame"
)

func Example() {
	one, e := frame.Append(nil, []byte("first"))
	fmt.Println(len(one), e == api.OK)
	two, e := frame.Append(one, []byte("second"))
	fmt.Println(len(two), e == api.OK)
	for at, record := range frame.Each(two) {
		fmt.Println(at, string(record))
	}
	records, n, e := frame.Scan(two[:len(two)-1])
	fmt.Println(len(records), n, e == api.ErrMissing)
	two[len(two)-1] ^= 1
	records, n, e = frame.Scan(two)
	fmt.Println(len(records), n, e == api.ErrCorrupt)
	// Output:
	// 17 true
	// 35 true
	// 0 first
	// 17 second
	// 1 17 true
	// 1 17 true
}
