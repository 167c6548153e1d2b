package bloom

import (
	"math/big"
	"strings"
	"testing"
)

// These are the tests of P8.1, of Hash.

func TestHashOfExamples(t *testing.T) {
	upTo255 := make([]byte, 256)
	for i := range upTo255 {
		upTo255[i] = byte(i)
	}
	for _, c := range []struct {
		key  string
		want uint64
	}{
		{"", 14695981039346656037},
		{"a", 12638187200555641996},
		{"b", 12638190499090526629},
		{"foobar", 9625390261332436968},
		{"hello world", 8618312879776256743},
		{"\x00", 12638153115695167455},
		{"\x00\x00", 590684067820433389},
		{"\x7f", 12638211389811462638},
		{"\x80", 12638293853183578463},
		{"\xe9", 12638336734137078692},
		{"\xff", 12638352127299873646},
		{"é", 775207407765167617},
		{"\xff\xff\xff\xff", 11047178588169845073},
		{strings.Repeat("a", 1000), 4360425977657714541},
		{string(upTo255), 4774620800949106213},
		{hashNone, 0},
		{highNone, 0x00000000a93b3627},
		{highAll, 0xfffffffff259e00c},
		{highEven, 0xfffffffe7b28d351},
		{highTop, 0x80000000656a595a},
		{lowNone, 0x67f34bc100000000},
		{lowAll, 0xf1a7e2d1ffffffff},
	} {
		if got := Hash(c.key); got != c.want {
			t.Errorf("Hash of %q: %d, not %d", c.key, got, c.want)
		}
	}
}

func TestHashIsThatOfTheLibrary(t *testing.T) {
	for _, key := range texts() {
		if got, want := Hash(key), hashed(key); got != want {
			t.Errorf("Hash of %q: %d, not %d", key, got, want)
		}
	}
	for n := range 300 {
		if got, want := Hash(mixed(n)), hashed(mixed(n)); got != want {
			t.Errorf("Hash of %q: %d, not %d", mixed(n), got, want)
		}
	}
}

// TestHashGoesOnByteByByte has each byte behind several texts, by numbers without an end.
func TestHashGoesOnByteByByte(t *testing.T) {
	for _, key := range []string{"", "a", "\xff", hashNone, highAll, "世界"} {
		for c := range 256 {
			h := new(big.Int).SetUint64(Hash(key))
			h.Xor(h, big.NewInt(int64(c)))
			h.Mul(h, big.NewInt(1099511628211))
			h.Mod(h, twoTo(64))
			if got := Hash(key + string([]byte{byte(c)})); got != h.Uint64() {
				t.Errorf("Hash of %q and the byte %d: %d, not %d", key, c, got, h)
			}
		}
	}
}

func TestHashOfALongText(t *testing.T) {
	key := strings.Repeat(mixed(1000), 3000)
	if got, want := Hash(key), hashed(key); got != want {
		t.Errorf("Hash of a long text: %d, not %d", got, want)
	}
}

func FuzzHash(f *testing.F) {
	for _, key := range texts() {
		f.Add(key)
	}
	f.Fuzz(func(t *testing.T, key string) {
		if got, want := Hash(key), hashed(key); got != want {
			t.Fatalf("Hash of %q: %d, not %d", key, got, want)
		}
	})
}
