package crc_test

import (
	"fmt"

	"stagepost/api"
	"stagepost/crc"
)

func Example() {
	sealed := crc.Sealed([]byte("a row"))
	b, ok := crc.Opened(sealed)
	fmt.Println(string(b), ok)
	turned, e := crc.Burst(sealed, 13, 0x80000001)
	fmt.Println(e == api.OK)
	_, ok = crc.Opened(turned)
	fmt.Println(ok)
	fmt.Println(crc.More(crc.Sum([]byte("a ")), []byte("row")) == crc.Sum([]byte("a row")))
	// Output:
	// a row true
	// true
	// false
	// true
}
