package bloom

import (
	"bytes"
	"math/rand/v2"
	"slices"
	"testing"

	"stagepost/api"
)

// These are the tests of P8.4.

// yes says that a filter has a key.
func yes(t testing.TB, filter []byte, key string) {
	t.Helper()
	if got, e := Has(filter, key); !got || e != api.OK {
		t.Fatalf("Has of %s, %q: %v, %v", brief(filter), key, got, e)
	}
}

func TestNoKeyIsMissed(t *testing.T) {
	lists := [][]string{texts(), edgeKeys(), some(1), some(2), some(7), some(8), some(9), some(100), some(5000), slices.Repeat([]string{"a"}, 20), append(some(50), some(50)...)}
	for _, key := range texts() {
		lists = append(lists, []string{key})
	}
	for d := 1; d <= 16; d++ {
		for _, keys := range lists {
			filter := made(t, keys, d)
			for _, key := range keys {
				yes(t, filter, key)
			}
		}
	}
}

func TestNoKeyOfAsManyAsMayBeIsMissed(t *testing.T) {
	keys := some(1 << 20)
	for _, d := range []int{1, 10, 16} {
		filter := made(t, keys, d)
		for _, key := range keys {
			yes(t, filter, key)
		}
	}
}

// TestBothHasWhateverOneOfBothHas goes over filters of keys, and of bits that chance set, always the same ones.
func TestBothHasWhateverOneOfBothHas(t *testing.T) {
	r := rand.New(rand.NewPCG(8, 3))
	keys := append(texts(), some(100)...)
	ones := 0
	for range 300 {
		k, n := 1+r.IntN(12), 1+r.IntN(40)
		a, b := chance(r, k, n), chance(r, k, n)
		c, e := Both(a, b)
		if e != api.OK {
			t.Fatalf("Both of %v, %v: %v", a, b, e)
		}
		for _, key := range keys {
			if has(t, a, key) || has(t, b, key) {
				ones++
				yes(t, c, key)
			}
		}
	}
	if ones < 1000 {
		t.Errorf("the filters had just %d keys", ones)
	}
	for d := 1; d <= 16; d++ {
		x, y := some(60)[:30], some(60)[30:]
		c, e := Both(made(t, x, d), made(t, y, d))
		if want := holding(roundsFor[d], bitsFor(30, d), some(60)...); !bytes.Equal(c, want) || e != api.OK {
			t.Errorf("Both of the filters of two lists, %d bits: %v, %v, not that of all their keys: %v", d, c, e, want)
		}
		for _, key := range some(60) {
			yes(t, c, key)
		}
	}
}

// chance is a filter of k rounds and n bytes of bits, of which many are 1.
func chance(r *rand.Rand, k, n int) []byte {
	filter := []byte{byte(k)}
	for range n {
		filter = append(filter, byte(r.Uint32()|r.Uint32()))
	}
	return filter
}

// within says whether each bit that is 1 in a is 1 in b, which has as many and as many rounds.
func within(a, b []byte) bool {
	if len(a) != len(b) || a[0] != b[0] {
		return false
	}
	for i := range 8 * (len(a) - 1) {
		if isOne(a, i) && !isOne(b, i) {
			return false
		}
	}
	return true
}

// TestMoreKeysTakeNothing puts key behind key: while there is room in the bits that there are, each filter is within the next one.
func TestMoreKeysTakeNothing(t *testing.T) {
	keys := append(texts(), some(200)...)
	alike := 0
	for d := 1; d <= 16; d++ {
		for n := 1; n < len(keys); n++ {
			if bitsFor(n, d) != bitsFor(n+1, d) {
				continue
			}
			alike++
			if a, b := made(t, keys[:n], d), made(t, keys[:n+1], d); !within(a, b) {
				t.Fatalf("%d bits: the filter of %d keys is %s, that of one more %s", d, n, brief(a), brief(b))
			}
		}
	}
	if alike < 500 {
		t.Errorf("just %d filters had as many bits as the next one", alike)
	}
}

// TestMoreKeysInTheRoomOfEqualOnes: a list of equal keys, which become others one by one.
func TestMoreKeysInTheRoomOfEqualOnes(t *testing.T) {
	for d := 1; d <= 16; d++ {
		keys := slices.Repeat([]string{"a"}, 60)
		last := made(t, keys, d)
		for i, key := range some(59) {
			keys[i] = key
			next := made(t, keys, d)
			if !within(last, next) {
				t.Fatalf("%d bits: the filter became %v, with %q in it %v", d, last, key, next)
			}
			last = next
		}
		for _, key := range keys {
			yes(t, last, key)
		}
	}
}
