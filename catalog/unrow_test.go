package catalog

import (
	"math"
	"slices"
	"strings"
	"testing"

	"stagepost/api"
)

// These are the tests of P15.3.

// bends are texts that are nearly s: a byte less, a byte more, each byte another one.
func bends(s string) []string {
	l := []string{s + "\x00", s + "\x01", s + "\x01\x01", s + "\xff", "\x01" + s, s + s}
	for i := range len(s) {
		l = append(l, s[:i], s[i+1:], s[:i]+string([]byte{s[i] ^ 1})+s[i+1:], s[:i]+string([]byte{s[i] ^ 128})+s[i+1:])
	}
	return l
}

func TestUnrowOfNearlyARow(t *testing.T) {
	x := table(t, example)
	row := list(num(7), word("x"), yes())
	y := kv(list(num(1), num(0), word("x"), num(7)), row)
	unrows(t, x, y, row)
	for _, s := range bends(y.Key) {
		unrowsNot(t, x, api.KV{Key: s, Value: y.Value}, api.ErrBad)
	}
	for _, s := range bends(y.Value) {
		if s == told(num(7), word("x"), no()) {
			continue // another row with that key
		}
		unrowsNot(t, x, api.KV{Key: y.Key, Value: s}, api.ErrBad)
	}
	unrows(t, x, api.KV{Key: y.Key, Value: told(num(7), word("x"), no())}, list(num(7), word("x"), no()))
	unrowsNot(t, x, api.KV{}, api.ErrBad)
	unrowsNot(t, x, api.KV{Key: y.Value, Value: y.Key}, api.ErrBad)
	unrowsNot(t, x, api.KV{Key: strings.Repeat("\x01", 1<<20), Value: strings.Repeat("\x01", 1<<20)}, api.ErrBad)
}

// TestUnrowOfKeysThatAreNotTheRows, whatever they say.
func TestUnrowOfKeysThatAreNotTheRows(t *testing.T) {
	x := table(t, example)
	row := list(num(7), word("x"), yes())
	for _, key := range [][]api.Value{
		list(num(2), num(0), word("x"), num(7)), list(num(0), num(0), word("x"), num(7)), list(num(1), num(1), word("x"), num(7)), list(num(1), num(1), yes()), list(num(1), num(2), word("x"), word("x"), num(7)),
		list(num(1), num(0), num(7), word("x")), list(num(1), num(0), word("x")), list(num(1), num(0), word("x"), num(7), yes()), list(num(1), num(0), word("x"), num(8)), list(num(1), num(0), word("y"), num(7)),
		list(num(1), num(0)), list(num(1)), list(word("x"), num(7)), nil, list(num(1), null(), word("x"), num(7)), list(yes(), no(), word("x"), num(7)),
	} {
		unrowsNot(t, x, kv(key, row), api.ErrBad)
	}
}

// TestUnrowOfValuesThatDoNotFit, under the key that they would have.
func TestUnrowOfValuesThatDoNotFit(t *testing.T) {
	x := table(t, "create table t ( a int , b text , c bool , primary key ( a ) )")
	key := list(num(1), num(0), num(7))
	for _, row := range [][]api.Value{list(num(7), null(), null()), list(num(7), word("\x00\xff"), no())} {
		unrows(t, x, kv(key, row), row)
	}
	for _, row := range [][]api.Value{
		list(num(7), null()), list(num(7), null(), null(), null()), list(num(7)), nil, slices.Repeat(list(num(7)), 16), slices.Repeat(list(num(7)), 17),
		list(num(7), num(1), null()), list(num(7), null(), num(1)), list(num(7), yes(), null()), list(num(7), null(), word("x")), list(num(8), null(), null()), list(null(), null(), null()), list(word("x"), null(), null()),
	} {
		unrowsNot(t, x, kv(key, row), api.ErrBad)
	}
	unrowsNot(t, x, kv(list(num(1), num(0), null()), list(null(), null(), null())), api.ErrBad)
	unrowsNot(t, x, kv(list(num(1), num(0), word("x")), list(word("x"), null(), null())), api.ErrBad)
	unrowsNot(t, x, api.KV{Key: told(key...), Value: told(num(7)) + "\x04" + strings.Repeat("x", 65) + "\x00\x01" + "\x01"}, api.ErrBad)
	unrowsNot(t, table(t, example), kv(list(num(1), num(0), word("x"), num(7)), list(num(7), word("x"), null())), api.ErrBad)
}

// TestPointsOfNearlyAnEntry, of one that has the row's key in its value, and of one that has it in its key.
func TestPointsOfNearlyAnEntry(t *testing.T) {
	x := table(t, example)
	at := told(num(1), num(0), word("x"), num(7))
	unique, many := kv(list(num(1), num(1), yes()), list(word("x"), num(7))), kv(list(num(1), num(2), word("x"), word("x"), num(7)), nil)
	points(t, x, 1, unique, at)
	points(t, x, 2, many, at)
	for _, s := range bends(unique.Key) {
		if s != told(num(1), num(1), no()) {
			pointsNot(t, x, 1, api.KV{Key: s, Value: unique.Value}, api.ErrBad)
		}
	}
	for _, s := range bends(many.Key) {
		bent := api.KV{Key: s}
		if isOfNumber(s) {
			points(t, x, 2, bent, told(num(1), num(0), word("x"))+s[len(s)-9:])
			continue
		}
		pointsNot(t, x, 2, bent, api.ErrBad)
	}
	for _, s := range []string{"\x00", "\x01", told(word("x"), num(7)), told(null())} {
		pointsNot(t, x, 2, api.KV{Key: many.Key, Value: s}, api.ErrBad)
	}
	for _, s := range []string{"", "\x00", told(word("x")), told(num(7), word("x")), told(word("x"), num(7), num(7)), told(word("x"), null()), told(null(), num(7)), told(word("x"), word("y")), unique.Value + "\x00", unique.Value[1:], unique.Value[:5]} {
		pointsNot(t, x, 1, api.KV{Key: unique.Key, Value: s}, api.ErrBad)
	}
	points(t, x, 1, kv(list(num(1), num(1), no()), list(word(""), num(-1))), told(num(1), num(0), word(""), num(-1)))
	pointsNot(t, x, 1, api.KV{}, api.ErrBad)
	pointsNot(t, x, 2, api.KV{}, api.ErrBad)
}

// isOfNumber says whether s is the key of an entry like many of TestPointsOfNearlyAnEntry, with another number at its end.
func isOfNumber(s string) bool {
	head := told(num(1), num(2), word("x"), word("x")) + "\x03"
	return len(s) == len(head)+8 && strings.HasPrefix(s, head)
}

func TestPointsOfIndexesThatAreNotThere(t *testing.T) {
	x := table(t, example)
	for _, y := range []api.KV{kv(list(num(1), num(0), word("x"), num(7)), list(num(7), word("x"), yes())), kv(list(num(1), num(3), yes()), list(word("x"), num(7))), {}, {Key: strings.Repeat("x", 513)}} {
		for _, index := range []int{0, -1, 3, 4, 8, 9, math.MinInt, math.MaxInt} {
			pointsNot(t, x, index, y, api.ErrArg)
		}
		pointsNot(t, table(t, tables(1)), 1, y, api.ErrArg)
		pointsNot(t, table(t, tables(1)), 0, y, api.ErrArg)
	}
}

// TestPointsOfKeysOfOthers: of another table, another index, the row itself.
func TestPointsOfKeysOfOthers(t *testing.T) {
	x := table(t, "create table t ( a int , b int , primary key ( a ) ) ; create unique index i on t ( b ) ; create index j on t ( b ) ; create unique index k on t ( b ) ; create index l on t ( b )")
	row := list(num(1), num(2))
	at, _ := Row(x, row)
	l, _ := Entries(x, row)
	for i := range l {
		for j := range l {
			if i == j {
				points(t, x, i+1, l[j], at.Key)
			} else {
				pointsNot(t, x, i+1, l[j], api.ErrBad)
			}
		}
		pointsNot(t, x, i+1, at, api.ErrBad)
	}
	for _, number := range list(num(0), num(2), num(-1), null(), yes(), word("x")) {
		pointsNot(t, x, 1, kv(list(number, num(1), num(2)), list(num(1))), api.ErrBad)
		pointsNot(t, x, 2, kv(list(number, num(2), num(2), num(1)), nil), api.ErrBad)
	}
	x.Number = 2
	for i := range l {
		pointsNot(t, x, i+1, l[i], api.ErrBad)
	}
}

// TestPointsWhereTheIndexHasAColumnOfTheKey: both say one value.
func TestPointsWhereTheIndexHasAColumnOfTheKey(t *testing.T) {
	x := table(t, "create table t ( a int , b int , c int , primary key ( a , b ) ) ; create unique index i on t ( c , b ) ; create index j on t ( b , c , a ) ; create unique index k on t ( b , a )")
	at := told(num(1), num(0), num(7), num(8))
	for _, b := range list(num(7), num(8), num(9), num(0)) {
		unique := kv(list(num(1), num(1), num(5), b), list(num(7), num(8)))
		unknown := kv(list(num(1), num(1), null(), b, num(7), num(8)), nil)
		many := kv(list(num(1), num(2), b, null(), num(7), num(7), num(8)), nil)
		other := kv(list(num(1), num(2), num(8), num(1), b, num(7), num(8)), nil)
		of := kv(list(num(1), num(3), b, num(7)), list(num(7), num(8)))
		if b == num(8) {
			points(t, x, 1, unique, at)
			points(t, x, 1, unknown, at)
			points(t, x, 2, many, at)
			points(t, x, 3, of, at)
		} else {
			pointsNot(t, x, 1, unique, api.ErrBad)
			pointsNot(t, x, 1, unknown, api.ErrBad)
			pointsNot(t, x, 2, many, api.ErrBad)
			pointsNot(t, x, 3, of, api.ErrBad)
		}
		if b == num(7) {
			points(t, x, 2, other, at)
		} else {
			pointsNot(t, x, 2, other, api.ErrBad)
		}
	}
}

// TestPointsOfUniqueIndexesWithNulls: the key stands in the entry's key just if there is a Null.
func TestPointsOfUniqueIndexesWithNulls(t *testing.T) {
	x := table(t, "create table t ( a int , b int , c int , d int not null , primary key ( a ) ) ; create unique index i on t ( b , c ) ; create index j on t ( b , c ) ; create unique index k on t ( b , d )")
	at := told(num(1), num(0), num(7))
	for _, b := range list(null(), num(1)) {
		for _, c := range list(null(), num(2)) {
			inKey, inValue := kv(list(num(1), num(1), b, c, num(7)), nil), kv(list(num(1), num(1), b, c), list(num(7)))
			if b == null() || c == null() {
				points(t, x, 1, inKey, at)
				pointsNot(t, x, 1, inValue, api.ErrBad)
			} else {
				pointsNot(t, x, 1, inKey, api.ErrBad)
				points(t, x, 1, inValue, at)
			}
			points(t, x, 2, kv(list(num(1), num(2), b, c, num(7)), nil), at)
			pointsNot(t, x, 2, kv(list(num(1), num(2), b, c), list(num(7))), api.ErrBad)
			pointsNot(t, x, 2, kv(list(num(1), num(2), b, c, null()), nil), api.ErrBad)
		}
		pointsNot(t, x, 3, kv(list(num(1), num(3), b, null(), num(7)), nil), api.ErrBad)
		pointsNot(t, x, 3, kv(list(num(1), num(3), b, null()), list(num(7))), api.ErrBad)
	}
	points(t, x, 3, kv(list(num(1), num(3), null(), num(1), num(7)), nil), at)
	points(t, x, 3, kv(list(num(1), num(3), num(4), num(1)), list(num(7))), at)
}

// TestPointsOfOtherKinds: each value of an entry is of its column's kind, or a Null where that may be.
func TestPointsOfOtherKinds(t *testing.T) {
	x := table(t, "create table t ( a int , b text , c bool , primary key ( a ) ) ; create index i on t ( b , c ) ; create unique index j on t ( c ) ; create unique index k on t ( b )")
	for _, b := range list(null(), yes(), num(1), word("x")) {
		for _, c := range list(null(), yes(), num(1), word("x")) {
			y := kv(list(num(1), num(1), b, c, num(7)), nil)
			if (b == null() || b == word("x")) && (c == null() || c == yes()) {
				points(t, x, 1, y, told(num(1), num(0), num(7)))
			} else {
				pointsNot(t, x, 1, y, api.ErrBad)
			}
		}
		for index, fine := range map[int]api.Value{2: yes(), 3: word("x")} {
			y := kv(list(num(1), num(int64(index)), b), list(num(7)))
			if b == fine {
				points(t, x, index, y, told(num(1), num(0), num(7)))
			} else {
				pointsNot(t, x, index, y, api.ErrBad)
			}
			for _, a := range list(null(), yes(), word("7")) {
				pointsNot(t, x, index, kv(list(num(1), num(int64(index)), fine), list(a)), api.ErrBad)
			}
		}
	}
}

// TestPointsWithLongKeys: neither the entry's nor the row's key may have more than 512 bytes.
func TestPointsWithLongKeys(t *testing.T) {
	x := table(t, "create table t ( a text , b text , c text , d text , e int , primary key ( a , b , c , d ) ) ; create unique index i on t ( e ) ; create index j on t ( e )")
	for n := 500; n <= 520; n++ {
		key := fourOf(n)[:4]
		unique := kv(list(num(1), num(1), num(5)), key)
		if n <= 512 {
			points(t, x, 1, unique, told(slices.Concat(list(num(1), num(0)), key)...))
		} else {
			pointsNot(t, x, 1, unique, api.ErrBad)
		}
		unknown := kv(slices.Concat(list(num(1), num(1), null()), key), nil)
		if n+1 <= 512 {
			points(t, x, 1, unknown, told(slices.Concat(list(num(1), num(0)), key)...))
		} else {
			pointsNot(t, x, 1, unknown, api.ErrBad)
		}
		many := kv(slices.Concat(list(num(1), num(2), num(5)), key), nil)
		if n+9 <= 512 {
			points(t, x, 2, many, told(slices.Concat(list(num(1), num(0)), key)...))
		} else {
			pointsNot(t, x, 2, many, api.ErrBad)
		}
	}
	for _, s := range []string{strings.Repeat("\x01", 513), strings.Repeat("\x01", 1<<20), strings.Repeat("x", 513)} {
		pointsNot(t, x, 1, api.KV{Key: s}, api.ErrBad)
		pointsNot(t, x, 2, api.KV{Key: s, Value: s}, api.ErrBad)
	}
	wide := table(t, "create table t ( a text , b text , c text , d text , e int , primary key ( e ) ) ; create unique index i on t ( a , b , c , d )")
	for n := 500; n <= 520; n++ {
		y := kv(slices.Concat(list(num(1), num(1)), fourOf(n)[:4]), list(num(7)))
		if n <= 512 {
			points(t, wide, 1, y, told(num(1), num(0), num(7)))
		} else {
			pointsNot(t, wide, 1, y, api.ErrBad)
		}
	}
}

func TestBegins(t *testing.T) {
	x := table(t, "create table s ( a int , primary key ( a ) ) ; create index h on s ( a )")
	begins(t, x, 0, nil, num(1), num(0))
	begins(t, x, 1, nil, num(1), num(1))
	begins(t, x, 0, list(num(5)), num(1), num(0), num(5))
	x = mustOf(t, two).Tables[1]
	begins(t, x, 0, nil, num(2), num(0))
	begins(t, x, 0, list(), num(2), num(0))
	begins(t, x, 0, list(word("x")), num(2), num(0), word("x"))
	begins(t, x, 0, list(word("x"), num(-1)), num(2), num(0), word("x"), num(-1))
	begins(t, x, 1, nil, num(2), num(1))
	begins(t, x, 1, list(yes()), num(2), num(1), yes())
	begins(t, x, 1, list(yes(), word("")), num(2), num(1), yes(), word(""))
	begins(t, x, 2, nil, num(2), num(2))
	begins(t, x, 2, list(zeros(64, 64)), num(2), num(2), zeros(64, 64))
}

// TestBeginsOfOtherKinds: it is not asked of which kind the values are, nor whether they may be Null.
func TestBeginsOfOtherKinds(t *testing.T) {
	x := mustOf(t, two).Tables[1]
	for _, v := range list(null(), no(), yes(), num(math.MaxInt64), num(math.MinInt64), num(-1), word(""), word("\xff"), zeros(64, 64)) {
		for _, w := range list(null(), yes(), num(255), word("x")) {
			begins(t, x, 0, list(v, w), num(2), num(0), v, w)
			begins(t, x, 1, list(w, v), num(2), num(1), w, v)
		}
		begins(t, x, 2, list(v), num(2), num(2), v)
	}
}

func TestBeginsRefuses(t *testing.T) {
	x := mustOf(t, two).Tables[1]
	for _, index := range []int{-1, 3, 4, math.MinInt, math.MaxInt} {
		beginsNot(t, x, index, nil)
		beginsNot(t, x, index, list(word("x")))
	}
	beginsNot(t, x, 0, list(word("x"), num(1), num(1)))
	beginsNot(t, x, 0, slices.Repeat(list(num(1)), 17))
	beginsNot(t, x, 1, list(yes(), word("x"), null()))
	beginsNot(t, x, 1, list(yes(), word("x"), word("x"), num(1)))
	beginsNot(t, x, 2, list(word("x"), word("x")))
	beginsNot(t, table(t, tables(1)), 1, nil)
	for _, v := range wrong() {
		beginsNot(t, x, 0, list(v))
		beginsNot(t, x, 0, list(word("x"), v))
		beginsNot(t, x, 1, list(v, word("x")))
		beginsNot(t, x, 2, list(v))
	}
}

// TestBeginsWithAsManyAsMayBe: of a key and an index of four columns.
func TestBeginsWithAsManyAsMayBe(t *testing.T) {
	x := table(t, fours+" ; create index i on t ( e , d , c , b ) ; create index j on t ( e )")
	l := slices.Repeat(list(zeros(64, 64)), 5)
	for n := range 5 {
		for index := range 2 {
			begins(t, x, index, l[:n], slices.Concat(list(num(1), num(int64(index))), l[:n])...)
		}
	}
	beginsNot(t, x, 0, l)
	beginsNot(t, x, 1, l)
	beginsNot(t, x, 2, l[:2])
}
