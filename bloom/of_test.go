package bloom

import (
	"bytes"
	"math"
	"math/big"
	"slices"
	"testing"

	"stagepost/api"
)

// These are the tests of P8.1, of Of.

func TestOfOfExamples(t *testing.T) {
	for _, c := range []struct {
		keys []string
		bits int
		want []byte
	}{
		{nil, 1, []byte{1, 0}},
		{nil, 16, []byte{12, 0}},
		{[]string{}, 10, []byte{7, 0}},
		{[]string{"a"}, 1, []byte{1, 16}},
		{[]string{"a"}, 10, []byte{7, 73, 54}},
		{[]string{"a"}, 16, []byte{12, 219, 126}},
		{[]string{""}, 16, []byte{12, 188, 247}},
		{[]string{"\xff"}, 16, []byte{12, 109, 251}},
		{[]string{"a", "b"}, 3, []byte{3, 246}},
		{[]string{"a", "a"}, 10, []byte{7, 80, 5, 42}},
		{[]string{"a", "b", "c"}, 10, []byte{7, 97, 48, 12, 134}},
		{[]string{hashNone}, 1, []byte{1, 1}},
		{[]string{hashNone}, 16, []byte{12, 255, 15}},
		{[]string{hashNone, hashNone, hashNone}, 16, []byte{12, 255, 15, 0, 0, 0, 0}},
		{[]string{highNone, highNone, highNone}, 16, []byte{12, 7, 0, 0, 0, 128, 255}},
		{[]string{highAll, highAll, highAll}, 16, []byte{12, 72, 18, 36, 9, 146, 4}},
		{[]string{highEven, highEven, highEven}, 16, []byte{12, 0, 73, 130, 36, 65, 146}},
		{[]string{highTop, highTop, highTop}, 16, []byte{12, 36, 72, 18, 36, 9, 144}},
		{[]string{lowNone, lowNone, lowNone}, 16, []byte{12, 73, 2, 146, 4, 36, 9}},
		{[]string{lowAll, lowAll, lowAll}, 16, []byte{12, 73, 130, 36, 1, 146, 4}},
	} {
		if got, e := Of(c.keys, c.bits); !bytes.Equal(got, c.want) || e != api.OK {
			t.Errorf("Of of %q, %d bits: %v, %v; not %v", c.keys, c.bits, got, e, c.want)
		}
	}
}

// TestOfHasSoManyBitsAndRounds goes over all bits a key, and over numbers of keys at which these are below 8, a multiple of 8, and neither.
func TestOfHasSoManyBitsAndRounds(t *testing.T) {
	counts := []int{99, 100, 127, 128, 129, 1000, 1023}
	for n := range 70 {
		counts = append(counts, n)
	}
	for _, n := range counts {
		for d := 1; d <= 16; d++ {
			b := made(t, some(n), d)
			if m := 8 * (len(b) - 1); m != bitsFor(n, d) {
				t.Errorf("Of of %d keys, %d bits: it has %d bits, not %d", n, d, m, bitsFor(n, d))
			}
			if int(b[0]) != roundsFor[d] {
				t.Errorf("Of of %d keys, %d bits: it has %d rounds, not %d", n, d, b[0], roundsFor[d])
			}
			if n == 0 && !bytes.Equal(b[1:], []byte{0}) {
				t.Errorf("Of of none, %d bits: %v", d, b)
			}
		}
	}
}

// of says that Of's bytes are the model's.
func of(t testing.TB, keys []string, d int) {
	t.Helper()
	want := holding(roundsFor[d], bitsFor(len(keys), d), keys...)
	if got := made(t, keys, d); !bytes.Equal(got, want) {
		t.Fatalf("Of of %q, %d bits: %s, not %s", keys, d, brief(got), brief(want))
	}
}

func TestOfSetsTheBitsOfItsKeysAndNoOthers(t *testing.T) {
	for d := 1; d <= 16; d++ {
		for _, key := range texts() {
			of(t, []string{key}, d)
			of(t, []string{key, key, key}, d)
		}
		for n := range 40 {
			of(t, some(n), d)
		}
		of(t, texts(), d)
		of(t, edgeKeys(), d)
		of(t, some(1000), d)
	}
}

// TestOfCountsEqualKeys: a key that is there more than once has room for each.
func TestOfCountsEqualKeys(t *testing.T) {
	for n := 1; n < 50; n++ {
		keys := slices.Repeat([]string{"a"}, n)
		for _, d := range []int{1, 7, 8, 10, 16} {
			of(t, keys, d)
		}
	}
}

func TestOfTakesKeysInAnyOrder(t *testing.T) {
	keys := append(some(30), texts()...)
	turned := slices.Clone(keys)
	slices.Reverse(turned)
	for d := 1; d <= 16; d++ {
		if a, b := made(t, keys, d), made(t, turned, d); !bytes.Equal(a, b) {
			t.Errorf("Of, %d bits: %v, and turned about %v", d, a, b)
		}
	}
}

// TestSumsAreNotCut: with low and i times high above 2^32, as nearly all are, the bit is that of the whole sum. (The greatest one is below 2^36: no key's reaches 2^64.)
func TestSumsAreNotCut(t *testing.T) {
	cut := 0
	for _, key := range append(some(40), texts()...) {
		for n := 1; n <= 6; n++ {
			of(t, slices.Repeat([]string{key}, n), 16)
			for i := range 12 {
				m := big.NewInt(int64(16 * n))
				whole, low := sum(key, i), new(big.Int)
				low.Mod(whole, twoTo(32))
				if whole.Cmp(twoTo(36)) >= 0 {
					t.Errorf("%q: the sum %d", key, whole)
				}
				if whole.Mod(whole, m).Cmp(low.Mod(low, m)) != 0 {
					cut++
				}
			}
		}
	}
	// The keys are worth something: sums of 32 bits would tell others.
	if cut < 1000 {
		t.Errorf("just %d bits would be others, cut", cut)
	}
	if last := sum(highAll, 11); last.Cmp(twoTo(35)) <= 0 {
		t.Errorf("the sum of the last round is just %d", last)
	}
}

// wrongBits are such as no filter has, also where a narrower number would wrap round to one that it may have.
func wrongBits() []int {
	return []int{0, 17, 18, 100, 255, 256, 257, 1<<16 + 1, 1<<32 + 1, math.MaxInt, math.MaxInt - 1, -1, -2, -8, -16, -255, -256, math.MinInt, math.MinInt + 1, math.MinInt + 16}
}

func refused(t testing.TB, what string, b []byte, e, want api.Errno) {
	t.Helper()
	if b != nil || e != want {
		t.Errorf("%s: %s, %v; not %v", what, brief(b), e, want)
	}
}

func TestOfOfWrongBits(t *testing.T) {
	for _, d := range wrongBits() {
		for _, keys := range [][]string{nil, {}, {""}, {"a"}, some(100)} {
			b, e := Of(keys, d)
			refused(t, "Of, wrong bits", b, e, api.ErrArg)
		}
	}
	for d := 1; d <= 16; d++ {
		if _, e := Of(some(3), d); e != api.OK {
			t.Errorf("Of, %d bits: %v", d, e)
		}
	}
}

// TestOfOfTooManyKeys: that there are too many is told ahead of the bits (rule 1).
func TestOfOfTooManyKeys(t *testing.T) {
	for _, n := range []int{1<<20 + 1, 1<<20 + 2, 1 << 21, 3 << 20} {
		keys := make([]string, n)
		for d := 1; d <= 16; d++ {
			b, e := Of(keys, d)
			refused(t, "Of, too many keys", b, e, api.ErrLong)
		}
		for _, d := range wrongBits() {
			b, e := Of(keys, d)
			refused(t, "Of, too many keys, wrong bits", b, e, api.ErrLong)
		}
	}
	for _, n := range []int{1<<20 - 1, 1 << 20} {
		for _, d := range wrongBits() {
			b, e := Of(make([]string, n), d)
			refused(t, "Of, many keys, wrong bits", b, e, api.ErrArg)
		}
	}
}

func TestOfOfAsManyKeysAsMayBe(t *testing.T) {
	keys := some(1 << 20)
	of(t, keys, 1)
	for _, n := range []int{1<<20 - 1, 1 << 20} {
		for _, d := range []int{3, 16} {
			b := made(t, keys[:n], d)
			if 8*(len(b)-1) != bitsFor(n, d) || int(b[0]) != roundsFor[d] {
				t.Errorf("Of of %d keys, %d bits: %d bytes, the first one %d", n, d, len(b), b[0])
			}
			for i := 0; i < n; i += 1000 {
				if !has(t, b, keys[i]) {
					t.Fatalf("Of of %d keys, %d bits, misses %q", n, d, keys[i])
				}
			}
		}
	}
}

// keysOf are the keys that some bytes say: each behind a byte that tells how many it has.
func keysOf(b []byte) []string {
	var l []string
	for len(b) > 0 {
		n := min(int(b[0])%11, len(b)-1)
		l = append(l, string(b[1:1+n]))
		b = b[1+n:]
	}
	return l
}

func FuzzOf(f *testing.F) {
	f.Add([]byte("\x01a\x01b\x01c"), 10)
	f.Add([]byte("\x08"+hashNone+"\x07"+highAll+"\x00"), 16)
	f.Add([]byte{}, 0)
	f.Fuzz(func(t *testing.T, b []byte, d int) {
		keys := keysOf(b[:min(len(b), 2000)])
		if d < 1 || d > 16 {
			got, e := Of(keys, d)
			refused(t, "Of, wrong bits", got, e, api.ErrArg)
			d = d&15 + 1
		}
		of(t, keys, d)
		for _, key := range keys {
			has(t, made(t, keys, d), key)
		}
	})
}
