package manifest

import (
	"math/rand/v2"
	"slices"
	"testing"

	"stagepost/api"
)

// These are the tests of P10.1, of Behind and From.

// makes says that of v and e comes just this version.
func makes(t testing.TB, what string, v api.Version, e api.Edit, want api.Version) {
	t.Helper()
	got, fault := Behind(v, e)
	if fault != api.OK || !sameVersion(got, want) {
		t.Errorf("%s: %s, %d; not %s", what, brief(got), fault, brief(want))
	}
	if model, fault := behindModel(v, e); fault != api.OK || !sameVersion(model, want) {
		t.Errorf("%s: the model says %s, %d", what, brief(model), fault)
	}
}

// stops says that e does not go behind v, or that v may not be.
func stops(t testing.TB, what string, v api.Version, e api.Edit) {
	t.Helper()
	got, fault := Behind(v, e)
	if fault != api.ErrArg || !noVersion(got) {
		t.Errorf("%s: %s, %d; not ErrArg", what, brief(got), fault)
	}
	if model, fault := behindModel(v, e); fault != api.ErrArg {
		t.Errorf("%s: the model says %s, %d", what, brief(model), fault)
	}
}

func TestBehindAnEditOfNothing(t *testing.T) {
	for what, v := range goodVersions() {
		makes(t, what, v, edit(nil, nil, v.Log, v.Seq, v.Next), v)
	}
}

func TestBehindPutsTablesInOrder(t *testing.T) {
	v := sample()
	r := rand.New(rand.NewPCG(10, 2))
	for range 200 {
		// Some are there, the others come, in any order.
		l := slices.Clone(v.Tables)
		r.Shuffle(len(l), func(i, j int) { l[i], l[j] = l[j], l[i] })
		n := r.IntN(len(l) + 1)
		makes(t, "all in two parts", version(v.Log, v.Seq, v.Next, ordered(l[:n])...), edit(nil, l[n:], v.Log, v.Seq, v.Next), v)
	}
}

func TestBehindDropsAndAdds(t *testing.T) {
	v := sample()
	makes(t, "one goes", v, edit(numbers(7), nil, 3, 70, 12), version(3, 70, 12, slices.Delete(slices.Clone(v.Tables), 1, 2)...))
	makes(t, "all go", v, edit(numbers(9, 7, 6, 4, 8, 1, 2, 5, 11), nil, 3, 70, 12), version(3, 70, 12))
	makes(t, "all go, in another order", v, edit(numbers(1, 2, 11, 4, 5, 6, 7, 8, 9), nil, 3, 70, 12), version(3, 70, 12))
	makes(t, "one comes", version(1, 0, 1), edit(nil, metas(meta(1, 0, 3, "a", "c")), 2, 5, 2), version(2, 5, 2, meta(1, 0, 3, "a", "c")))
	makes(t, "some go, one comes instead of them", version(1, 9, 4, meta(3, 0, 1, "a", "d"), meta(2, 0, 1, "b", "e"), meta(1, 1, 4, "c", "k")),
		edit(numbers(3, 2, 1), metas(meta(4, 1, 5, "a", "k")), 1, 9, 5), version(1, 9, 5, meta(4, 1, 5, "a", "k")))
	makes(t, "the newest of level 0 stands ahead", version(1, 0, 3, meta(2, 0, 1, "a", "a"), meta(1, 0, 1, "z", "z")),
		edit(nil, metas(meta(3, 0, 1, "k", "k"), meta(4, 0, 1, "j", "j")), 1, 0, 5),
		version(1, 0, 5, meta(4, 0, 1, "j", "j"), meta(3, 0, 1, "k", "k"), meta(2, 0, 1, "a", "a"), meta(1, 0, 1, "z", "z")))
	makes(t, "between two of a level", version(1, 0, 3, meta(2, 1, 1, "a", "b"), meta(1, 1, 1, "e", "f")),
		edit(nil, metas(meta(3, 1, 1, "c", "d")), 1, 0, 4),
		version(1, 0, 4, meta(2, 1, 1, "a", "b"), meta(3, 1, 1, "c", "d"), meta(1, 1, 1, "e", "f")))
}

// TestBehindOfANumberThatGoesAndComes: a table may come under the Number of one that goes, on its level or on another.
func TestBehindOfANumberThatGoesAndComes(t *testing.T) {
	v := version(1, 0, 3, meta(2, 0, 1, "a", "b"), meta(1, 1, 1, "a", "b"))
	makes(t, "moved a level on", v, edit(numbers(2), metas(meta(2, 2, 1, "a", "b")), 1, 0, 3), version(1, 0, 3, meta(1, 1, 1, "a", "b"), meta(2, 2, 1, "a", "b")))
	makes(t, "the same one again", v, edit(numbers(1), metas(meta(1, 1, 1, "a", "b")), 1, 0, 3), v)
	stops(t, "added, and not dropped", v, edit(nil, metas(meta(2, 2, 1, "a", "b")), 1, 0, 3))
	stops(t, "dropped, and added twice", v, edit(numbers(2), metas(meta(2, 2, 1, "a", "b"), meta(2, 3, 1, "a", "b")), 1, 0, 3))
}

func TestBehindOfDropsThatDoNotGo(t *testing.T) {
	v := sample()
	for what, drops := range map[string][]int{
		"one that is not there":                 {3},
		"the next one":                          {12},
		"none":                                  {0},
		"one below":                             {-9},
		"one far above":                         {1 << 40},
		"one twice":                             {7, 7},
		"one twice, and others":                 {9, 4, 7, 11, 9},
		"one that is there, and one that isn't": {7, 3},
		"all, and one that isn't there":         {9, 7, 6, 4, 8, 1, 2, 5, 11, 10},
		"all twice":                             {9, 7, 6, 4, 8, 1, 2, 5, 11, 9, 7, 6, 4, 8, 1, 2, 5, 11},
	} {
		stops(t, "drops "+what, v, edit(drops, nil, 3, 70, 12))
	}
	stops(t, "one of no tables", one(), edit(numbers(1), nil, 1, 0, 1))
	stops(t, "one that the edit adds", one(), edit(numbers(1), metas(meta(1, 0, 1, "a", "a")), 1, 0, 2))
	stops(t, "one that the edit adds, among others", v, edit(numbers(9, 12), metas(meta(12, 0, 1, "a", "a")), 3, 70, 13))
	stops(t, "as many as it adds", v, edit(numbers(3), metas(meta(3, 0, 1, "a", "a")), 3, 70, 12))
}

func TestBehindOfAddsThatDoNotGo(t *testing.T) {
	v := sample()
	good := meta(12, 2, 1, "a", "b")
	makes(t, "a good one", v, edit(nil, metas(good), 3, 70, 13), version(3, 70, 13, slices.Insert(slices.Clone(v.Tables), 6, good)...))
	for what, change := range map[string]func(x *api.Meta){
		"the Number 0":             func(x *api.Meta) { x.Number = 0 },
		"a Number below":           func(x *api.Meta) { x.Number = -12 },
		"the Number Next":          func(x *api.Meta) { x.Number = 13 },
		"a Number above Next":      func(x *api.Meta) { x.Number = 999999 },
		"a Number above all":       func(x *api.Meta) { x.Number = 1000000 },
		"a Number that is there":   func(x *api.Meta) { x.Number = 11 },
		"the level -1":             func(x *api.Meta) { x.Level = -1 },
		"the level 7":              func(x *api.Meta) { x.Level = 7 },
		"a key of the level":       func(x *api.Meta) { x.Level = 1 },
		"a key of another level":   func(x *api.Meta) { x.Level, x.First, x.Last = 3, "d", "d" },
		"keys between":             func(x *api.Meta) { x.Level, x.First, x.Last = 3, "c", "c" },
		"keys around":              func(x *api.Meta) { x.Level, x.First, x.Last = 3, "a", "z" },
		"the Count 0":              func(x *api.Meta) { x.Count = 0 },
		"too great a Count":        func(x *api.Meta) { x.Count = 65537 },
		"no First":                 func(x *api.Meta) { x.First = "" },
		"no First and no Last":     func(x *api.Meta) { x.First, x.Last = "", "" },
		"too long a First":         func(x *api.Meta) { x.First, x.Last = long(513), "z" },
		"too long a Last":          func(x *api.Meta) { x.Last = long(513) },
		"First above Last":         func(x *api.Meta) { x.First = "c" },
		"all the last ones' keys":  func(x *api.Meta) { x.Level, x.First, x.Last = 6, "\x00", "\x00" },
		"just the last one's Last": func(x *api.Meta) { x.Level, x.First, x.Last = 6, "\xff\xff", "\xff\xff\xff" },
	} {
		x := good
		change(&x)
		stops(t, "adds one with "+what, v, edit(nil, metas(x), 3, 70, 13))
		stops(t, "adds a good one, and one with "+what, v, edit(nil, metas(meta(10, 0, 1, "a", "b"), x), 3, 70, 13))
	}
	stops(t, "adds one twice", v, edit(nil, metas(good, good), 3, 70, 13))
	stops(t, "adds two that share a key", v, edit(nil, metas(good, meta(10, 2, 1, "b", "c")), 3, 70, 13))
	stops(t, "adds two of one Number", v, edit(nil, metas(good, meta(12, 4, 1, "b", "c")), 3, 70, 13))
}

func TestBehindOfNumbers(t *testing.T) {
	v := version(5, 6, 7)
	for _, c := range []struct {
		log, seq, next int
		goes           bool
	}{
		{5, 6, 7, true}, {6, 6, 7, true}, {5, 7, 7, true}, {5, 6, 8, true}, {999999, 1 << 30, 999999, true},
		{4, 6, 7, false}, {5, 5, 7, false}, {5, 6, 6, false}, {4, 9, 9, false}, {9, 5, 9, false}, {9, 9, 6, false},
		{0, 6, 7, false}, {5, -1, 7, false}, {5, 6, 0, false}, {1000000, 6, 7, false}, {5, 1<<30 + 1, 7, false}, {5, 6, 1000000, false},
	} {
		e := edit(nil, nil, c.log, c.seq, c.next)
		if c.goes {
			makes(t, "numbers that go", v, e, version(c.log, c.seq, c.next))
		} else {
			stops(t, "numbers that don't go", v, e)
		}
	}
	makes(t, "the first version", one(), edit(nil, nil, 1, 0, 1), one())
	stops(t, "the zero edit", one(), api.Edit{})
	// At the greatest numbers it may stay there.
	top := version(999999, 1<<30, 999999)
	makes(t, "the greatest ones", top, edit(nil, nil, 999999, 1<<30, 999999), top)
	stops(t, "one less", top, edit(nil, nil, 999999, 1<<30, 999998))
}

func TestBehindOfHowMany(t *testing.T) {
	full := version(1, 0, 2000, row(1024, 1, 1, 5)...)
	stops(t, "one more", full, adds(full, meta(1500, 2, 1, "a", "b")))
	makes(t, "one more, one less", full, edit(numbers(1024), metas(meta(1500, 2, 1, "a", "b")), 1, 0, 2000),
		version(1, 0, 2000, append(slices.Clone(full.Tables[:1023]), meta(1500, 2, 1, "a", "b"))...))
	makes(t, "the last one", version(1, 0, 2000, full.Tables[:1023]...), edit(nil, full.Tables[1023:], 1, 0, 2000), full)
	makes(t, "all at once", one(), edit(nil, full.Tables, 1, 0, 2000), full)
	stops(t, "1,025 at once", one(), edit(nil, row(1025, 1, 1, 5), 1, 0, 2000))
	stops(t, "3,000 at once", one(), edit(nil, row(3000, 0, 1, 5), 1, 0, 4000))
	var all []int
	for n := 1024; n >= 1; n-- {
		all = append(all, n)
	}
	makes(t, "all go", full, edit(all, nil, 1, 0, 2000), version(1, 0, 2000))
	makes(t, "all go, and as many come", full, edit(all, row(1024, 5, 900, 5), 1, 0, 2000), version(1, 0, 2000, row(1024, 5, 900, 5)...))
	stops(t, "all go, and one that is not there", full, edit(append(all, 1025), nil, 1, 0, 2000))
	stops(t, "all go, and one more than they come", full, edit(all, row(1025, 5, 900, 5), 1, 0, 2000))
}

// TestBehindOfAVersionThatMayNotBe: whatever the edit makes of it.
func TestBehindOfAVersionThatMayNotBe(t *testing.T) {
	for _, v := range []api.Version{
		{}, version(0, 0, 1), version(1, -1, 1), version(1, 0, 0),
		version(1, 0, 1, meta(1, 0, 1, "a", "b")),
		version(1, 0, 9, meta(1, 0, 1, "a", "b"), meta(2, 0, 1, "a", "b")),
		version(1, 0, 9, meta(1, 1, 1, "a", "b"), meta(2, 1, 1, "b", "c")),
		version(1, 0, 9, meta(1, 1, 1, "b", "a")),
		version(1, 0, 9, meta(1, 3, 1, "a", "b"), meta(2, 1, 1, "a", "b")),
		version(1, 0, 9, meta(1, 3, 1, "a", "b"), meta(1, 4, 1, "a", "b")),
		version(1, 0, 2000, row(1025, 1, 1, 5)...),
	} {
		stops(t, "an edit of nothing", v, edit(nil, nil, 9, 9, 2000))
		stops(t, "one that takes all away", v, edit(numbers(1, 2)[:min(2, len(v.Tables))], nil, 9, 9, 2000))
		stops(t, "one that takes one away", v, edit(numbers(1), nil, 9, 9, 2000))
		stops(t, "one that does not go", v, edit(numbers(7, 7), nil, 0, 0, 0))
	}
}

func TestBehindAgainstTheModel(t *testing.T) {
	r := rand.New(rand.NewPCG(10, 3))
	goes := 0
	for range 60000 {
		v, e := someVersion(r), someEdit(r)
		if len(v.Tables) > 0 && r.IntN(2) == 0 {
			e.Drops = append(e.Drops, v.Tables[r.IntN(len(v.Tables))].Number)
		}
		got, fault := Behind(v, e)
		want, wanted := behindModel(v, e)
		if fault != wanted || !sameVersion(got, want) {
			t.Fatalf("Behind of %s and %s: %s, %d; not %s, %d", brief(v), briefEdit(e), brief(got), fault, brief(want), wanted)
		}
		if fault == api.OK {
			goes++
		}
	}
	if goes < 5000 || goes > 50000 {
		t.Errorf("%d of them go", goes)
	}
}

// someEdit is an edit of few drops and adds.
func someEdit(r *rand.Rand) api.Edit {
	e := edit(nil, nil, 2+r.IntN(3), 2+r.IntN(3), 13+r.IntN(4))
	for r.IntN(6) == 0 {
		e.Drops = append(e.Drops, r.IntN(12))
	}
	for r.IntN(2) == 0 {
		e.Adds = append(e.Adds, someMeta(r))
	}
	return e
}

func TestFrom(t *testing.T) {
	all := goodVersions()
	// Any version will do, also such as may not be.
	all["the zero version"] = api.Version{}
	all["numbers out of their bounds"] = version(-1, -2, -3)
	all["tables that may not be"] = version(1<<40, 1<<50, 0, meta(-1, 9, 0, "b", ""), meta(-1, 0, 0, "", long(600)))
	all["too many tables"] = version(1, 0, 4000, row(3000, 1, 1, 5)...)
	for what, v := range all {
		e := From(v)
		if len(e.Drops) != 0 || !sameEdit(e, edit(nil, v.Tables, v.Log, v.Seq, v.Next)) {
			t.Errorf("From of %s: %s", what, briefEdit(e))
		}
	}
	if e := From(api.Version{}); !noEdit(e) {
		t.Errorf("From of the zero version: %s", briefEdit(e))
	}
}
