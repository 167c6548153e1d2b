package bloom_test

import (
	"fmt"

	"stagepost/api"
	"stagepost/bloom"
)

func Example() {
	a, _ := bloom.Of([]string{"ab", "abc"}, 10)
	fmt.Println(a)
	yes, _ := bloom.Has(a, "abc")
	no, _ := bloom.Has(a, "abd")
	fmt.Println(yes, no)
	// A filter of as many bits and rounds, and both of them in one.
	b, _ := bloom.Of([]string{"abd", "b"}, 10)
	both, e := bloom.Both(a, b)
	yes, _ = bloom.Has(both, "abc")
	also, _ := bloom.Has(both, "abd")
	fmt.Println(e == api.OK, yes, also)
	more, _ := bloom.Of([]string{"abd", "b", "c"}, 10)
	_, e = bloom.Both(a, more)
	fmt.Println(e == api.ErrArg)
	fmt.Println(bloom.Check(a[:1]) == api.ErrBad)
	// Output:
	// [7 242 151 72]
	// true false
	// true true true
	// true
	// true
}
