package bloom

import (
	"bytes"
	"testing"

	"stagepost/api"
)

// These are the tests of P8.2.

// checks says that Check answers so, and Has of any key with it.
func checks(t testing.TB, filter []byte, want api.Errno) {
	t.Helper()
	if got := Check(filter); got != want {
		t.Errorf("Check of %s: %v, not %v", brief(filter), got, want)
	}
	for _, key := range []string{"", "x", hashNone, "\xff"} {
		if yes, e := Has(filter, key); e != want || yes && e != api.OK {
			t.Errorf("Has of %s, %q: %v, %v", brief(filter), key, yes, e)
		}
	}
}

func TestCheckOfTooFewBytes(t *testing.T) {
	checks(t, nil, api.ErrBad)
	checks(t, []byte{}, api.ErrBad)
	for c := range 256 {
		checks(t, []byte{byte(c)}, api.ErrBad)
		// What stands behind the end is none of its bytes.
		checks(t, []byte{byte(c), 255, 255}[:1], api.ErrBad)
	}
	checks(t, []byte{7, 255}[:0], api.ErrBad)
}

func TestCheckOfEachFirstByte(t *testing.T) {
	for c := range 256 {
		want := api.ErrBad
		if c >= 1 && c <= 12 {
			want = api.OK
		}
		for _, n := range []int{1, 2, 3, 7, 8, 100, 5000} {
			for _, rest := range []byte{0, 1, 12, 13, 255} {
				checks(t, append([]byte{byte(c)}, bytes.Repeat([]byte{rest}, n)...), want)
			}
		}
	}
}

// TestCheckOfWhatOfAnswers: each filter is one.
func TestCheckOfWhatOfAnswers(t *testing.T) {
	for d := 1; d <= 16; d++ {
		for n := range 30 {
			checks(t, made(t, some(n), d), api.OK)
		}
	}
}

// TestHasWhereAllBitsAreAlike: none has no key, all have each.
func TestHasWhereAllBitsAreAlike(t *testing.T) {
	for k := 1; k <= 12; k++ {
		for _, n := range []int{1, 2, 3, 5, 8, 100} {
			none := append([]byte{byte(k)}, make([]byte, n)...)
			all := append([]byte{byte(k)}, bytes.Repeat([]byte{255}, n)...)
			for _, key := range texts() {
				if yes, e := Has(none, key); yes || e != api.OK {
					t.Errorf("Has of %v, %q: %v, %v", none, key, yes, e)
				}
				if yes, e := Has(all, key); !yes || e != api.OK {
					t.Errorf("Has of %v, %q: %v, %v", all, key, yes, e)
				}
			}
		}
	}
}

// TestHasAsksForEachBitOfTheKeyAndForNoOther turns each bit of a filter that has the key's bits alone, and of one that has all but one.
func TestHasAsksForEachBitOfTheKeyAndForNoOther(t *testing.T) {
	for k := 1; k <= 12; k++ {
		for _, m := range []int{8, 16, 24, 40, 104} {
			for _, key := range append(edgeKeys(), "", "a", "\xff", "世界") {
				filter := holding(k, m, key)
				if !has(t, filter, key) {
					t.Fatalf("%v has not %q", filter, key)
				}
				for b := range m {
					own := isOne(filter, b)
					filter[1+b/8] ^= 1 << (b % 8)
					if yes := has(t, filter, key); yes == own {
						t.Errorf("Has of %v, %q, the bit %d turned: %v", filter, key, b, yes)
					}
					filter[1+b/8] ^= 1 << (b % 8)
				}
			}
		}
	}
}

// TestHasGoesAsManyRoundsAsTheFirstByteSays: with the bits of the first rounds alone, a filter of these rounds has the key, one of more just if they come to no other bit.
func TestHasGoesAsManyRoundsAsTheFirstByteSays(t *testing.T) {
	for _, key := range texts() {
		for k := 1; k <= 12; k++ {
			filter := holding(k, 4096, key)
			for said := 1; said <= 12; said++ {
				filter[0] = byte(said)
				if yes := has(t, filter, key); !yes && said <= k {
					t.Errorf("a filter with the first %d bits of %q has it not in %d rounds", k, key, said)
				}
			}
		}
	}
}

func TestHasOfOtherKeys(t *testing.T) {
	for d := 1; d <= 16; d++ {
		no := 0
		for _, n := range []int{1, 5, 30} {
			filter := made(t, some(n), d)
			for _, key := range append(texts(), some(60)...) {
				if !has(t, filter, key) {
					no++
				}
			}
		}
		if no == 0 {
			t.Errorf("filters of %d bits a key have all keys", d)
		}
	}
}

// TestHasOfFiltersThatNoListMakes: of more bits than as many keys as may be have, with bits that no key set.
func TestHasOfFiltersThatNoListMakes(t *testing.T) {
	for _, n := range []int{1<<21 + 1, 1<<21 + 3, 5 << 20} {
		for k := 1; k <= 12; k++ {
			filter := make([]byte, 1+n)
			filter[0] = byte(k)
			for _, key := range edgeKeys() {
				has(t, filter, key)
				for _, b := range places(key, k, 8*n) {
					filter[1+b/8] |= 1 << (b % 8)
				}
				if !has(t, filter, key) {
					t.Errorf("a filter of %d bytes has not %q", n, key)
				}
			}
		}
	}
}

func FuzzHas(f *testing.F) {
	f.Add([]byte{7, 255}, "x")
	f.Add([]byte{7, 0}, "x")
	f.Add([]byte{0, 1}, "")
	f.Add([]byte{13, 1}, "")
	f.Add([]byte{5}, "")
	f.Add([]byte{12, 255, 15, 0, 0, 0, 0}, hashNone)
	f.Fuzz(func(t *testing.T, b []byte, key string) {
		checks(t, b, checked(b))
		has(t, b, key)
		if len(b) >= 2 {
			b = append([]byte{b[0]%12 + 1}, b[1:]...)
			has(t, b, key)
			for _, at := range places(key, int(b[0]), 8*(len(b)-1)) {
				b[1+at/8] |= 1 << (at % 8)
			}
			if !has(t, b, key) {
				t.Fatalf("%v has not %q", b, key)
			}
		}
	})
}
