package lsm

import (
	"math"
	"slices"
	"testing"

	"stagepost/api"
)

// These are the tests of Check, and of Open's answer to settings that may not be (P11.1).

// goodSettings are such as may be: the edges of each bound.
func goodSettings() map[string]api.Settings {
	return map[string]api.Settings{
		"those of the examples":   usual(),
		"the least of all":        {Per: 1, Bits: 1, Top: 1, Most: 1},
		"the greatest of all":     {Heights: []int{12, 12, 12}, Per: 64, Bits: 16, Top: 64, Most: 65536},
		"the least Per":           {Per: 1, Bits: 10, Top: 2, Most: 4},
		"the greatest Per":        {Per: 64, Bits: 10, Top: 2, Most: 4},
		"the least Bits":          {Per: 2, Bits: 1, Top: 2, Most: 4},
		"the greatest Bits":       {Per: 2, Bits: 16, Top: 2, Most: 4},
		"the least Top":           {Per: 2, Bits: 10, Top: 1, Most: 4},
		"the greatest Top":        {Per: 2, Bits: 10, Top: 64, Most: 4},
		"the least Most":          {Per: 2, Bits: 10, Top: 2, Most: 1},
		"the greatest Most":       {Per: 2, Bits: 10, Top: 2, Most: 65536},
		"no heights, a list":      {Heights: []int{}, Per: 2, Bits: 10, Top: 2, Most: 4},
		"one height":              settings(2, 4, 1),
		"the greatest height":     settings(2, 4, 12),
		"heights":                 settings(2, 4, 1, 12, 3, 2, 7),
		"many heights":            settings(2, 4, slices.Repeat([]int{1, 5, 12}, 1000)...),
		"more entries than a Per": {Per: 64, Bits: 10, Top: 2, Most: 1},
	}
}

// badSettings are such as may not be: one beyond each bound.
func badSettings() map[string]api.Settings {
	return map[string]api.Settings{
		"none":                      {},
		"Heights of 0":              settings(2, 4, 0),
		"Heights of 13":             settings(2, 4, 13),
		"Heights of -1":             settings(2, 4, -1),
		"the last height":           settings(2, 4, 1, 12, 3, 13),
		"the first height":          settings(2, 4, 0, 1, 12),
		"a height between":          settings(2, 4, 1, math.MaxInt, 2),
		"Per of 0":                  {Per: 0, Bits: 10, Top: 2, Most: 4},
		"Per of -1":                 {Per: -1, Bits: 10, Top: 2, Most: 4},
		"Per of 65":                 {Per: 65, Bits: 10, Top: 2, Most: 4},
		"Bits of 0":                 {Per: 2, Bits: 0, Top: 2, Most: 4},
		"Bits of -1":                {Per: 2, Bits: -1, Top: 2, Most: 4},
		"Bits of 17":                {Per: 2, Bits: 17, Top: 2, Most: 4},
		"Top of 0":                  {Per: 2, Bits: 10, Top: 0, Most: 4},
		"Top of -1":                 {Per: 2, Bits: 10, Top: -1, Most: 4},
		"Top of 65":                 {Per: 2, Bits: 10, Top: 65, Most: 4},
		"Most of 0":                 {Per: 2, Bits: 10, Top: 2, Most: 0},
		"Most of -1":                {Per: 2, Bits: 10, Top: 2, Most: -1},
		"Most of 65,537":            {Per: 2, Bits: 10, Top: 2, Most: 65537},
		"the greatest numbers":      {Per: math.MaxInt, Bits: math.MaxInt, Top: math.MaxInt, Most: math.MaxInt},
		"the least numbers":         {Per: math.MinInt, Bits: math.MinInt, Top: math.MinInt, Most: math.MinInt},
		"one beyond, all of them":   {Heights: []int{13}, Per: 65, Bits: 17, Top: 65, Most: 65537},
		"a number that wraps round": {Per: 1<<32 + 2, Bits: 10, Top: 2, Most: 4},
	}
}

func TestCheck(t *testing.T) {
	for what, s := range goodSettings() {
		answers(t, "Check: "+what, Check(s), api.OK)
	}
	for what, s := range badSettings() {
		answers(t, "Check: "+what, Check(s), api.ErrArg)
	}
}

// TestOpenChecksTheSettings: refused, it does nothing to the file system.
func TestOpenChecksTheSettings(t *testing.T) {
	for what, set := range badSettings() {
		f := newFS(t, 100000)
		was := look(f)
		if s, e := Open(f, set); s != nil || e != api.ErrArg || look(f) != was {
			t.Errorf("Open: %s: %v, %d\n%s", what, s != nil, e, look(f))
		}
	}
}

// TestStoresOfAllSettings: what may be is what a store works with.
func TestStoresOfAllSettings(t *testing.T) {
	for what, set := range goodSettings() {
		f := newFS(t, 1<<24)
		s := opened(t, f, set)
		var p past
		for i := range 40 {
			b := []api.Write{{Key: key(i * 7 % 11), Value: key(i)}, {Key: key(20 + i*5%13), Del: i%3 == 0}}
			if _, e := s.Apply(b); e != api.OK {
				t.Fatalf("%s: Apply: %d", what, e)
			}
			p = append(p, b)
			if i%6 == 5 {
				done(t, s.Flush())
			}
			for s.Due() >= 0 {
				done(t, s.Compact(s.Due()))
			}
		}
		if p.tellsAll(t, s, 40); t.Failed() {
			t.Fatalf("this was %s", what)
		}
		// A store may be opened with other settings than it had.
		p.tellsAll(t, again(t, f, usual()), 40)
	}
}
