package bloom

import (
	"fmt"
	"hash/fnv"
	"math/big"
	"math/rand/v2"
	"strings"
	"testing"

	"stagepost/api"
)

// Keys whose hashes are edges: the hash 0; of the highest 32 bits none, all, all but the lowest, just the highest; of the lowest 32 bits none, all.
const (
	hashNone = "\xd5\x6b\xb9\x53\x42\x87\x08\x36"
	highNone = "tew5e9u"
	highAll  = "9cae4bi"
	highEven = "oa4kw6b"
	highTop  = "jedllnh"
	lowNone  = "mbmus87"
	lowAll   = "ydojwsz"
)

func edgeKeys() []string {
	return []string{hashNone, highNone, highAll, highEven, highTop, lowNone, lowAll}
}

// texts are keys of all sorts: of no bytes, of one, of many, of bytes above 127, such as are no UTF-8, such as nearly are others, and those of edgeKeys.
func texts() []string {
	all := []string{"", "a", "b", "x", "aa", "ab", "ba", "a\x00", "\x00", "\x00\x00", "\x7f", "\x80", "\xff", "\xff\xff\xff\xff", "é", "\xe9", "世界", "\xed\xa0\x80", "\xf0\x9f", "foobar", "hello world"}
	for _, n := range []int{7, 8, 9, 63, 64, 65, 512, 5000} {
		all = append(all, strings.Repeat("a", n), strings.Repeat("\xc3", n), mixed(n))
	}
	return append(all, edgeKeys()...)
}

// mixed is a text of n bytes of all kinds, always the same ones.
func mixed(n int) string {
	r := rand.New(rand.NewPCG(uint64(n), 8))
	b := make([]byte, n)
	for i := range b {
		b[i] = byte(r.Uint32())
	}
	return string(b)
}

// some are n unlike keys.
func some(n int) []string {
	var l []string
	for i := range n {
		l = append(l, fmt.Sprint("key ", i))
	}
	return l
}

// twoTo is 2^n, in numbers without an end.
func twoTo(n uint) *big.Int { return new(big.Int).Lsh(big.NewInt(1), n) }

// The model: the chapter's words alone, in numbers without an end, a bit a bool.

// hashed is a key's hash by the library, a way that shares nothing with this package's.
func hashed(key string) uint64 {
	h := fnv.New64a()
	h.Write([]byte(key))
	return h.Sum64()
}

// halves are low and high of a key's hash.
func halves(key string) (low, high *big.Int) {
	high, low = new(big.Int).DivMod(new(big.Int).SetUint64(hashed(key)), twoTo(32), new(big.Int))
	return low, high.SetBit(high, 0, 1)
}

// sum is low and i times high, of a key.
func sum(key string, i int) *big.Int {
	low, high := halves(key)
	return low.Add(low, high.Mul(high, big.NewInt(int64(i))))
}

// places are a key's bits in a filter of m bits and k rounds.
func places(key string, k, m int) []int {
	var l []int
	for i := range k {
		x := sum(key, i)
		x.Mod(x, twoTo(64))
		l = append(l, int(x.Mod(x, big.NewInt(int64(m))).Int64()))
	}
	return l
}

// bitsFor is how many bits a filter for n keys has: from 8 on, up by 8.
func bitsFor(n, d int) int {
	m := 8
	for m < n*d {
		m += 8
	}
	return m
}

// roundsFor are the rounds for 1 to 16 bits a key, worked out by hand.
var roundsFor = []int{1: 1, 2: 2, 3: 3, 4: 3, 5: 4, 6: 5, 7: 5, 8: 6, 9: 7, 10: 7, 11: 8, 12: 9, 13: 9, 14: 10, 15: 11, 16: 12}

// holding is the filter of m bits and k rounds that has these keys.
func holding(k, m int, keys ...string) []byte {
	bits := make([]bool, m)
	for _, key := range keys {
		for _, b := range places(key, k, m) {
			bits[b] = true
		}
	}
	return laid(k, bits)
}

// laid are the bytes of a filter with these bits.
func laid(k int, bits []bool) []byte {
	out := []byte{byte(k)}
	for b := 0; b < len(bits); b += 8 {
		c := 0
		for i := 7; i >= 0; i-- {
			c *= 2
			if bits[b+i] {
				c++
			}
		}
		out = append(out, byte(c))
	}
	return out
}

// isOne says whether the bit b of a filter is 1.
func isOne(filter []byte, b int) bool {
	c := int(filter[1+b/8])
	for range b % 8 {
		c /= 2
	}
	return c%2 == 1
}

// checked says what Check is to answer.
func checked(filter []byte) api.Errno {
	if len(filter) >= 2 {
		for k := 1; k <= 12; k++ {
			if int(filter[0]) == k {
				return api.OK
			}
		}
	}
	return api.ErrBad
}

// hasAll says whether each of a key's bits is 1 in a filter.
func hasAll(filter []byte, key string) bool {
	for _, b := range places(key, int(filter[0]), 8*(len(filter)-1)) {
		if !isOne(filter, b) {
			return false
		}
	}
	return true
}

// made is Of's answer, which must be one.
func made(t testing.TB, keys []string, d int) []byte {
	t.Helper()
	b, e := Of(keys, d)
	if e != api.OK {
		t.Fatalf("Of of %d keys, %d bits: %v", len(keys), d, e)
	}
	return b
}

// has says that Has answers as the model.
func has(t testing.TB, filter []byte, key string) bool {
	t.Helper()
	want := checked(filter)
	yes := want == api.OK && hasAll(filter, key)
	if got, e := Has(filter, key); got != yes || e != want {
		t.Fatalf("Has of %s, %q: %v, %v; not %v, %v", brief(filter), key, got, e, yes, want)
	}
	return yes
}

// brief tells a filter in a line, of a long one its beginning.
func brief(b []byte) string {
	if len(b) > 40 {
		return fmt.Sprint(b[:40], " and more, of ", len(b))
	}
	return fmt.Sprint(b)
}
