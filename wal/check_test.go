package wal

import (
	"slices"
	"strings"
	"testing"

	"stagepost/api"
)

// These are the tests of P5.1, of Check and Name.

func TestCheckOfHowMany(t *testing.T) {
	answers(t, "none", Check(nil), api.ErrArg)
	answers(t, "an empty list", Check(list()), api.ErrArg)
	answers(t, "no writes with spare room", Check(many(3)[:0]), api.ErrArg)
	for n := 1; n <= 64; n++ {
		answers(t, "up to 64", Check(many(n)), api.OK)
	}
	for _, n := range []int{65, 66, 128, 1000} {
		answers(t, "more than 64", Check(many(n)), api.ErrLong)
	}
}

func TestCheckOfKeys(t *testing.T) {
	for n, want := range map[int]api.Errno{0: api.ErrArg, 1: api.OK, 2: api.OK, 511: api.OK, 512: api.OK, 513: api.ErrArg, 5000: api.ErrArg} {
		answers(t, "a put", Check(list(put(long(n), "v"))), want)
		answers(t, "a delete", Check(list(del(long(n)))), want)
		answers(t, "the last of some", Check(append(many(5), put(long(n), "v"))), want)
		answers(t, "the first of some", Check(append(list(del(long(n))), many(5)...)), want)
	}
}

func TestCheckOfValues(t *testing.T) {
	for n, want := range map[int]api.Errno{0: api.OK, 1: api.OK, 4095: api.OK, 4096: api.OK, 4097: api.ErrArg, 1 << 17: api.ErrArg} {
		answers(t, "a put", Check(list(put("k", long(n)))), want)
		answers(t, "one of some", Check(slices.Concat(many(5), list(put("k", long(n))), list(del("l")))), want)
	}
}

func TestCheckOfDeletesWithAValue(t *testing.T) {
	for _, n := range []int{1, 2, 4096, 4097} {
		bad := api.Write{Key: "k", Value: long(n), Del: true}
		answers(t, "a delete with a value", Check(list(bad)), api.ErrArg)
		answers(t, "one of some", Check(slices.Concat(many(5), list(bad), many(0))), api.ErrArg)
	}
	answers(t, "a delete", Check(list(del("k"))), api.OK)
}

func TestCheckOfKeysThatAreThereTwice(t *testing.T) {
	for _, l := range [][]api.Write{
		list(put("a", "1"), put("a", "2")),
		list(put("a", "1"), put("a", "1")),
		list(put("a", "1"), del("a")),
		list(del("a"), del("a")),
		list(put("a", ""), put("b", ""), put("c", ""), put("a", "")),
		list(put("b", ""), put("a", ""), put("a", "")),
		append(many(63), put("key 0", "")),
		append(many(63), del("key 62")),
		list(put(long(512), "1"), put(long(512), "2")),
	} {
		answers(t, "two with one key", Check(l), api.ErrThere)
	}
	for _, l := range [][]api.Write{
		list(put("a", "1"), put("A", "1")),
		list(put("a", "1"), put("aa", "1"), put("a\x00", "1"), put("\x00a", "1"), put(" a", "1")),
		list(put(long(511)+"a", "1"), put(long(511)+"b", "1")),
		list(put("\xff", ""), put("\xfe", ""), put("\x80", "")),
	} {
		answers(t, "keys that are unlike", Check(l), api.OK)
	}
}

// TestCheckTellsTheFirstError has lists to which several errors apply (rule 1).
func TestCheckTellsTheFirstError(t *testing.T) {
	odd := put("", "")
	answers(t, "too many, one that may not be, two with one key", Check(append(many(63), odd, odd)), api.ErrLong)
	answers(t, "too many of one key", Check(slices.Repeat(list(put("a", "")), 65)), api.ErrLong)
	answers(t, "two with one key that may not be", Check(list(odd, odd)), api.ErrArg)
	answers(t, "two with one key, then one that may not be", Check(list(put("a", ""), put("a", ""), odd)), api.ErrArg)
	answers(t, "one that may not be, then two with one key", Check(list(odd, put("a", ""), put("a", ""))), api.ErrArg)
	answers(t, "two with one key, one of them with too long a value", Check(list(put("a", ""), put("a", long(4097)))), api.ErrArg)
	answers(t, "64 of one key", Check(slices.Repeat(list(put("a", "")), 64)), api.ErrThere)
}

func TestCheckOfTheGoodOnes(t *testing.T) {
	for _, b := range good() {
		answers(t, "a batch that may be", Check(b.Writes), api.OK)
	}
}

func TestName(t *testing.T) {
	for n, want := range map[int]string{
		1: "wal-000001", 7: "wal-000007", 9: "wal-000009", 10: "wal-000010", 99: "wal-000099", 100: "wal-000100", 123: "wal-000123",
		4567: "wal-004567", 99999: "wal-099999", 100000: "wal-100000", 123456: "wal-123456", 999998: "wal-999998", 999999: "wal-999999",
	} {
		if got, e := Name(n); got != want || e != api.OK {
			t.Errorf("Name(%d): %q, %v; not %q", n, got, e, want)
		}
	}
	for _, n := range []int{0, -1, -7, -999999, 1000000, 1000001, 1 << 40, -1 << 63, 1<<63 - 1} {
		if got, e := Name(n); got != "" || e != api.ErrArg {
			t.Errorf("Name(%d): %q, %v", n, got, e)
		}
	}
}

func TestNamesAreInTheOrderOfTheNumbers(t *testing.T) {
	last := ""
	for n := 1; n <= 999999; n += 13 {
		s, e := Name(n)
		if e != api.OK || s <= last || len(s) != 10 || !strings.HasPrefix(s, "wal-") {
			t.Fatalf("Name(%d): %q, %v, behind %q", n, s, e, last)
		}
		last = s
	}
}
