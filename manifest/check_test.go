package manifest

import (
	"math"
	"math/rand/v2"
	"slices"
	"testing"

	"stagepost/api"
)

// These are the tests of P10.1, of Check.

// checks says what Check answers, and that the model says so too.
func checks(t testing.TB, what string, v api.Version, want api.Errno) {
	t.Helper()
	answers(t, "Check of "+what, Check(v), want)
	if possible(v) != (want == api.OK) {
		t.Errorf("%s: the model says %v", what, possible(v))
	}
}

func TestCheckOfVersionsThatMayBe(t *testing.T) {
	for what, v := range goodVersions() {
		checks(t, what, v, api.OK)
	}
}

// edges are numbers at the edges of the bounds from least to most, each with whether it is within.
func edges(least, most int) map[int]api.Errno {
	return map[int]api.Errno{
		least: api.OK, least + 1: api.OK, most - 1: api.OK, most: api.OK,
		least - 1: api.ErrArg, most + 1: api.ErrArg, -least - most: api.ErrArg, most + 1<<32: api.ErrArg,
		math.MinInt: api.ErrArg, math.MaxInt: api.ErrArg,
	}
}

func TestCheckOfNumbers(t *testing.T) {
	for n, want := range edges(1, 999999) {
		checks(t, "a Log", version(n, 7, 9), want)
		checks(t, "a Next", version(3, 7, n), want)
	}
	for n, want := range edges(0, 1<<30) {
		checks(t, "a Seq", version(3, n, 9), want)
	}
	checks(t, "the zero version", api.Version{}, api.ErrArg)
}

// around is a version of several tables, into which one is put at its place.
func around(x api.Meta) api.Version {
	return version(1, 0, 999999, ordered(metas(meta(500, 0, 1, "b", "b"), meta(400, 0, 1, "b", "b"), x, meta(3, 1, 1, "o", "p"), meta(7, 5, 1, "o", "p")))...)
}

func TestCheckOfATable(t *testing.T) {
	x := meta(9, 2, 5, "c", "d")
	for n, want := range edges(1, 999998) {
		y := x
		y.Number = n
		checks(t, "a Number", version(1, 0, 999999, y), want)
		if y.Level = 0; count(numbers(500, 400, 3, 7), n) == 0 {
			checks(t, "a Number among others", around(y), want)
		}
	}
	for n, want := range edges(0, 6) {
		y := x
		y.Level = n
		checks(t, "a Level", version(1, 0, 10, y), want)
	}
	for n, want := range edges(1, 65536) {
		y := x
		y.Count = n
		checks(t, "a Count", version(1, 0, 10, y), want)
		checks(t, "a Count among others", around(y), want)
	}
}

func TestCheckOfKeys(t *testing.T) {
	for n, want := range map[int]api.Errno{0: api.ErrArg, 1: api.OK, 2: api.OK, 511: api.OK, 512: api.OK, 513: api.ErrArg, 1024: api.ErrArg, 70000: api.ErrArg} {
		for level := range 7 {
			checks(t, "a First", version(1, 0, 2, meta(1, level, 1, long(n), "y")), want)
			checks(t, "a Last", version(1, 0, 2, meta(1, level, 1, "\x00", long(n))), want)
			checks(t, "both", version(1, 0, 2, meta(1, level, 1, long(n), long(n))), want)
			checks(t, "among others", around(meta(9, 2, 1, long(n), long(n))), want)
		}
	}
	for _, c := range []struct {
		first, last string
		want        api.Errno
	}{
		{"a", "a", api.OK}, {"a", "b", api.OK}, {"b", "a", api.ErrArg}, {"a", "aa", api.OK}, {"aa", "a", api.ErrArg},
		{"a", "a\x00", api.OK}, {"a\x00", "a", api.ErrArg}, {"\x7f", "\x80", api.OK}, {"\x80", "\x7f", api.ErrArg},
		{"\xff", "\x00", api.ErrArg}, {long(511) + "a", long(511) + "b", api.OK}, {long(511) + "b", long(511) + "a", api.ErrArg},
		{long(512), long(511), api.ErrArg}, {long(511), long(512), api.OK},
	} {
		for level := range 7 {
			checks(t, "First and Last", version(1, 0, 2, meta(1, level, 1, c.first, c.last)), c.want)
		}
	}
}

func TestCheckOfNext(t *testing.T) {
	for _, n := range []int{1, 2, 300, 999997, 999998} {
		for level := range 7 {
			checks(t, "Next behind the Number", version(1, 0, n+1, meta(n, level, 1, "a", "b")), api.OK)
			checks(t, "Next the Number", version(1, 0, n, meta(n, level, 1, "a", "b")), api.ErrArg)
			checks(t, "Next ahead of the Number", version(1, 0, max(1, n-1), meta(n, level, 1, "a", "b")), api.ErrArg)
		}
	}
	// No table may have the greatest Number, as no Next is above it.
	checks(t, "the greatest Number", version(1, 0, 999999, meta(999999, 0, 1, "a", "b")), api.ErrArg)
	v := sample()
	v.Next = 11
	checks(t, "Next the Number of the last one", v, api.ErrArg)
}

func TestCheckOfNumbersThatAreThereTwice(t *testing.T) {
	for _, levels := range [][2]int{{0, 0}, {0, 1}, {0, 6}, {1, 1}, {1, 2}, {5, 5}, {3, 6}} {
		one, two := meta(4, levels[0], 1, "a", "b"), meta(4, levels[1], 1, "c", "d")
		checks(t, "a Number twice", version(1, 0, 9, one, two), api.ErrArg)
		two.Number = 3
		checks(t, "unlike Numbers", version(1, 0, 9, one, two), api.OK)
	}
	v := sample()
	for i := range v.Tables {
		for j := range v.Tables {
			w := sample()
			if w.Tables[i].Number = v.Tables[j].Number; i != j {
				checks(t, "a Number of another one", w, api.ErrArg)
			}
		}
	}
}

// TestCheckOfAnotherOrder: of each two tables of a version that are turned about, and of each that is put elsewhere.
func TestCheckOfAnotherOrder(t *testing.T) {
	v := sample()
	for i := range v.Tables {
		for j := range v.Tables {
			w := sample()
			w.Tables[i], w.Tables[j] = w.Tables[j], w.Tables[i]
			want := api.ErrArg
			if i == j {
				want = api.OK
			}
			checks(t, "two turned about", w, want)
			moved := slices.Insert(slices.Delete(slices.Clone(v.Tables), i, i+1), j, v.Tables[i])
			checks(t, "one elsewhere", version(v.Log, v.Seq, v.Next, moved...), want)
		}
	}
	a, b := meta(1, 0, 1, "a", "b"), meta(2, 0, 1, "c", "d")
	checks(t, "level 0 by rising Number", version(1, 0, 3, a, b), api.ErrArg)
	checks(t, "level 0 by falling Number", version(1, 0, 3, b, a), api.OK)
	for level := 1; level <= 6; level++ {
		a.Level, b.Level = level, level
		checks(t, "another level by rising First", version(1, 0, 3, a, b), api.OK)
		checks(t, "another level by falling First", version(1, 0, 3, b, a), api.ErrArg)
		a.Level = level - 1
		checks(t, "levels rising", version(1, 0, 3, a, b), api.OK)
		checks(t, "levels falling", version(1, 0, 3, b, a), api.ErrArg)
	}
}

// TestCheckOfRanges holds all ranges of some keys against each other, on each level.
func TestCheckOfRanges(t *testing.T) {
	keys := []string{"a", "a\x00", "ab", "b", "b\xff", "c"}
	for level := range 7 {
		for i, first := range keys {
			for j := i; j < len(keys); j++ {
				for k, other := range keys {
					for l := k; l < len(keys); l++ {
						v := version(1, 0, 3, meta(2, level, 1, first, keys[j]), meta(1, level, 1, other, keys[l]))
						want := api.OK
						if level > 0 && j >= k {
							want = api.ErrArg
						}
						checks(t, "two ranges", v, want)
					}
				}
			}
		}
	}
}

// TestCheckOfARangeThatSpansAll: a range that has all others in it is found, wherever it stands.
func TestCheckOfARangeThatSpansAll(t *testing.T) {
	for n := range 6 {
		l := row(5, 2, 1, 3)
		wide := meta(9, 2, 1, key(0, 3), key(99, 3))
		checks(t, "a wide range among others", version(1, 0, 10, slices.Insert(l, n, wide)...), api.ErrArg)
	}
}

func TestCheckOfHowMany(t *testing.T) {
	for level := range 7 {
		for n, want := range map[int]api.Errno{0: api.OK, 1: api.OK, 1023: api.OK, 1024: api.OK, 1025: api.ErrArg, 3000: api.ErrArg} {
			answers(t, "so many tables", Check(version(1, 0, 4000, row(n, level, 1, 5)...)), want)
		}
	}
	// They are counted together.
	both := slices.Concat(row(512, 0, 1, 4), row(512, 1, 600, 4))
	checks(t, "1,024 tables of two levels", version(1, 0, 2000, both...), api.OK)
	checks(t, "1,025 tables of three levels", version(1, 0, 2000, append(both, meta(1500, 6, 1, "a", "b"))...), api.ErrArg)
}

// TestCheckAgainstTheModel has versions at random, of which many nearly may be.
func TestCheckAgainstTheModel(t *testing.T) {
	r := rand.New(rand.NewPCG(10, 1))
	may := 0
	for range 60000 {
		v := someVersion(r)
		if Check(v) == api.OK {
			may++
		}
		if (Check(v) == api.OK) != possible(v) {
			t.Fatalf("Check of %s: %v", brief(v), Check(v))
		}
	}
	if may < 10000 || may > 50000 {
		t.Errorf("%d of them may be", may)
	}
}

// someMeta is a table's words of few Numbers, levels and keys, seldom such as may not be.
func someMeta(r *rand.Rand) api.Meta {
	keys := []string{"a", "b", "c", "d", "e", "f", "g", "h"}
	i := r.IntN(len(keys))
	j := i + r.IntN(min(3, len(keys)-i))
	x := meta(1+r.IntN(12), []int{0, 0, 1, 1, 2, 6}[r.IntN(6)], 1+r.IntN(4), keys[i], keys[j])
	switch r.IntN(150) {
	case 0:
		x.Number = 0
	case 1:
		x.Level = 7
	case 2:
		x.Count = 0
	case 3:
		x.First, x.Last = x.Last, x.First
	case 4:
		x.First = ""
	case 5:
		x.Level = -1
	}
	return x
}

// someVersion is a version of few tables, mostly in order.
func someVersion(r *rand.Rand) api.Version {
	var l []api.Meta
	for range r.IntN(5) {
		l = append(l, someMeta(r))
	}
	slices.SortStableFunc(l, func(a, b api.Meta) int { return a.Level*1000 - b.Level*1000 })
	if r.IntN(5) > 0 && len(ordered(l)) == len(l) {
		l = ordered(l)
	}
	return version(1+r.IntN(3), r.IntN(3), 10+r.IntN(5), l...)
}
