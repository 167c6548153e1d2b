package lsm

import (
	"fmt"
	"math/rand/v2"
	"slices"
	"testing"

	"stagepost/api"
	"stagepost/manifest"
	"stagepost/mem"
	"stagepost/vfs"
)

// These are the tests of P11.8 (as a map), of P11.11, and of P11.7.

// life is a store, and all batches that it was told.
type life struct {
	t    testing.TB
	f    *vfs.FS
	set  api.Settings
	s    *Store
	all  past
	held []int // the snapshots
	from int   // what is passed
	seen map[string]int
}

func newLife(t testing.TB, set api.Settings) *life {
	t.Helper()
	f := newFS(t, 1<<22)
	return &life{t: t, f: f, set: set, s: opened(t, f, set), seen: map[string]int{}}
}

// do does one thing of many, of which three numbers tell which.
func (a *life) do(n, x, y int) {
	a.t.Helper()
	switch n % 16 {
	case 0, 1, 2, 3, 4, 5, 6:
		b := []api.Write{put(key(x%23), fmt.Sprint(len(a.all)), y%3 == 0)}
		for i := range y % 4 {
			b = append(b, put(key(30+(x+i)%9), fmt.Sprint(y), x%5 == 0))
		}
		a.all = append(a.all, b)
		if seq, e := a.s.Apply(b); seq != len(a.all) || e != api.OK {
			a.t.Fatalf("Apply: %d, %d; not %d", seq, e, len(a.all))
		}
	case 7, 8:
		done(a.t, a.s.Flush())
	case 9, 10:
		a.compact(0)
	case 11:
		a.compact(x % 6)
		a.compact(y % 6)
	case 12:
		a.held = append(a.held, taken(a.t, a.s))
	case 13:
		if len(a.held) > 0 {
			i := x % len(a.held)
			done(a.t, a.s.Release(a.held[i]))
			a.held = slices.Delete(a.held, i, i+1)
		}
	case 14:
		for a.s.Due() >= 0 {
			a.compact(a.s.Due())
		}
	default:
		switch x % 4 {
		case 0:
			a.s, a.held, a.from = again(a.t, a.f, a.set), nil, len(a.all)
		case 1:
			for level := range 6 {
				a.compact(level)
			}
		}
	}
}

func (a *life) compact(level int) {
	a.t.Helper()
	if slices.ContainsFunc(a.s.Tables(), func(x api.Meta) bool { return x.Level == level }) {
		a.from = len(a.all)
		a.seen[fmt.Sprint("Compact ", level)]++
	}
	compacted(a.t, a.s, level)
}

// right says that what can be asked for is what a map tells, and that the rest can't be asked for.
func (a *life) right() {
	a.t.Helper()
	for seq := -1; seq <= len(a.all)+1; seq++ {
		if seq >= a.from && seq <= len(a.all) || slices.Contains(a.held, seq) {
			a.all.tellsAll(a.t, a.s, seq)
			a.seen["told"]++
			continue
		}
		getFails(a.t, a.s, key(1), seq, api.ErrStale)
		scanFails(a.t, a.s, "", "", seq, 9, api.ErrStale)
		a.seen["stale"]++
	}
	if a.s.Held() != len(a.held) {
		a.t.Fatalf("Held: %d, not %d", a.s.Held(), len(a.held))
	}
	sound(a.t, a.s)
}

// sound says that the tables are such as a version may have, that each has what its words say, and that later versions of a key stand ahead of earlier ones.
func sound(t testing.TB, s *Store) {
	t.Helper()
	words := s.Tables()
	if e := manifest.Check(api.Version{Tables: words, Log: 1, Seq: s.Seq(), Next: 999999}); e != api.OK {
		t.Fatalf("Tables: %d, %v", e, words)
	}
	least := map[string]int{} // the earliest version of each key that stands ahead
	for _, x := range slices.Collect(s.recent.All()) {
		least[x.Key] = x.Seq
	}
	level, place := 0, 0
	owner := map[string]int{} // of each key of the level the table
	for _, x := range words {
		if x.Level != level {
			level, place, owner = x.Level, 0, map[string]int{}
		}
		y := s.levels[x.Level][place]
		place++
		l, e := y.file.All()
		if e != api.OK || y.words != x || len(l) != x.Count || l[0].Key != x.First || l[len(l)-1].Key != x.Last {
			t.Fatalf("the table %v has %d entries, %d", x, len(l), e)
		}
		for i, z := range l {
			if i > 0 && !mem.Ahead(l[i-1], z) {
				t.Fatalf("the table %v is not in order", x)
			}
			if seq, ok := least[z.Key]; ok && z.Seq >= seq {
				t.Fatalf("the version %d of %s stands behind %d", z.Seq, z.Key, seq)
			}
			if n, ok := owner[z.Key]; ok && n != x.Number && level > 0 {
				t.Fatalf("two tables of the level %d have %s", level, z.Key)
			}
			least[z.Key], owner[z.Key] = z.Seq, x.Number
		}
	}
}

func TestAsAMap(t *testing.T) {
	seen := map[string]int{}
	for seed := range uint64(48) {
		r := rand.New(rand.NewPCG(seed, 118))
		a := newLife(t, settings(1+r.IntN(3), []int{1, 2, 5, 50}[seed%4], 2, 1, 3, 1))
		for i := range 120 {
			a.do(r.IntN(16), r.IntN(1000), r.IntN(1000))
			if i%8 == 7 {
				a.right()
			}
		}
		a.right()
		for what, n := range a.seen {
			seen[what] += n
		}
	}
	for _, what := range []string{"told", "stale", "Compact 0", "Compact 1", "Compact 2", "Compact 3", "Compact 4", "Compact 5"} {
		if seen[what] < 10 {
			t.Errorf("%s: %d times", what, seen[what])
		}
	}
}

// TestFlushesAndCompactionsChangeNothing: at what may be asked for behind them.
func TestFlushesAndCompactionsChangeNothing(t *testing.T) {
	_, s := begun(t, settings(1, 2))
	var p past
	for i, b := range []string{"a=1 b=1", "-a c=2", "a=3 d=3", "-b -c", "b=5 e=5", "-a -d -e"} {
		applied(t, s, b)
		p = append(p, writes(b))
		for _, what := range []int{i % 2, 1 - i%2, 2, 3} {
			if what == 0 {
				done(t, s.Flush())
			} else {
				compacted(t, s, what-1)
			}
			p.tellsAll(t, s, i+1)
			sound(t, s)
		}
	}
}

// TestWhatIsHeldStays: whatever is compacted, as often as one likes.
func TestWhatIsHeldStays(t *testing.T) {
	for _, most := range []int{1, 2, 100} {
		_, s := begun(t, settings(1, most))
		var p past
		for i := range 12 {
			b := []api.Write{put("a", fmt.Sprint(i), i%3 == 2), put(key(i%4), fmt.Sprint(i), i%5 == 4)}
			p = append(p, b)
			if _, e := s.Apply(b); e != api.OK {
				t.Fatalf("Apply: %d", e)
			}
			if i == 4 || i == 7 {
				taken(t, s)
			}
		}
		done(t, s.Flush())
		for level := range 6 {
			for range 5 {
				compacted(t, s, level)
				for _, seq := range []int{5, 8, 12} {
					p.tellsAll(t, s, seq)
				}
				sound(t, s)
			}
		}
		if l := s.Tables(); len(l) == 0 || l[0].Level != 6 {
			t.Errorf("Tables: %v", l)
		}
	}
}

// TestTables: they are the version's, in its order.
func TestTables(t *testing.T) {
	f, s := begun(t, settings(1, 2))
	if l := s.Tables(); len(l) != 0 {
		t.Errorf("Tables of a new one: %v", l)
	}
	flushed(t, s, "c=1 d=1 e=1")
	flushed(t, s, "a=2")
	tables(t, s, meta(3, 0, 1, "a", "a"), meta(2, 0, 1, "e", "e"), meta(1, 0, 2, "c", "d"))
	compacted(t, s, 0)
	tables(t, s, meta(4, 1, 2, "a", "c"), meta(5, 1, 2, "d", "e"))
	compacted(t, s, 1)
	tables(t, s, meta(5, 1, 2, "d", "e"), meta(6, 2, 2, "a", "c"))
	flushed(t, s, "z=3")
	want := metas(meta(7, 0, 1, "z", "z"), meta(5, 1, 2, "d", "e"), meta(6, 2, 2, "a", "c"))
	tables(t, s, want...)
	tables(t, again(t, f, usual()), want...)
	m, e := manifest.Open(f)
	if e != api.OK || !slices.Equal(m.Version().Tables, want) {
		t.Errorf("the version's: %v, %d", m.Version().Tables, e)
	}
}

func FuzzMap(f *testing.F) {
	f.Add(uint8(2), []byte("\x00ab\x01bc\x07aa\x02cd\x0caa\x03de\x08aa\x09aa\x0baa\x0eaa\x0faa"))
	f.Fuzz(func(t *testing.T, most uint8, b []byte) {
		a := newLife(t, settings(1, 1+int(most)%50))
		for ; len(b) >= 3 && len(a.all) < 100; b = b[3:] {
			a.do(int(b[0]), int(b[1]), int(b[2]))
		}
		a.right()
	})
}
