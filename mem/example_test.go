package mem_test

import (
	"fmt"

	"stagepost/api"
	"stagepost/mem"
)

func Example() {
	m, e := mem.New([]int{2, 1, 3})
	fmt.Println(e == api.OK)
	m.Add(api.Entry{Key: "b", Value: "old", Seq: 1})
	m.Add(api.Entry{Key: "a", Del: true, Seq: 2})
	m.Add(api.Entry{Key: "b", Value: "new", Seq: 3})
	fmt.Println(m.Add(api.Entry{Key: "b", Seq: 3}) == api.ErrThere)
	for e := range m.All() {
		fmt.Println(e.Key, e.Seq, e.Value, e.Del)
	}
	// At the Seq 2 the later version is not to be seen.
	x, ok := m.Get("b", 2)
	fmt.Println(x.Value, ok)
	fmt.Println(m.Scan(api.Span{From: "a", To: "c"}, 2))
	fmt.Println(m.Len(), m.Size(), m.Lane(2), m.Cost("b", 3))
	// Output:
	// true
	// true
	// a 2  true
	// b 3 new false
	// b 1 old false
	// old true
	// [{a  2 true} {b old 1 false}]
	// 3 9 [1 2] 4
}
