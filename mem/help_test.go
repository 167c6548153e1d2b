package mem

import (
	"fmt"
	"hash/crc32"
	"iter"
	"math"
	"math/rand/v2"
	"slices"
	"sort"
	"strings"
	"testing"

	"stagepost/api"
)

// put is an entry whose value tells its key and its Seq.
func put(key string, seq int) api.Entry {
	return api.Entry{Key: key, Value: fmt.Sprint(key, "@", seq), Seq: seq}
}

func del(key string, seq int) api.Entry { return api.Entry{Key: key, Seq: seq, Del: true} }

func list(l ...api.Entry) []api.Entry { return l }

// long is a text of n bytes.
func long(n int) string { return strings.Repeat("x", n) }

// alone is the span of one key.
func alone(key string) api.Span { return api.Span{From: key, To: key + "\x00"} }

// places are the numbers from 0 on below n.
func places(n int) []int {
	var l []int
	for i := range n {
		l = append(l, i)
	}
	return l
}

// table is what can be asked of a table, and of the model of one.
type table interface {
	Add(e api.Entry) api.Errno
	Get(key string, seq int) (api.Entry, bool)
	Scan(s api.Span, seq int) []api.Entry
	All() iter.Seq[api.Entry]
	Len() int
	Size() int
	Lane(h int) []int
	Cost(key string, seq int) int
}

// model is a table by the chapter's words alone: the entries in the order in which they were added, gone over anew for each answer.
type model struct {
	heights []int
	added   []api.Entry
	order   []int // what ordered answered last
}

// mayBe says what the chapters' words say of an entry, one thing at a time.
func mayBe(e api.Entry) bool {
	if e.Seq < 1 || e.Seq > 1<<30 {
		return false
	}
	if len(e.Key) < 1 || len(e.Key) > 512 || len(e.Value) > 4096 {
		return false
	}
	return !e.Del || e.Value == ""
}

func (m *model) Add(e api.Entry) api.Errno {
	if !mayBe(e) {
		return api.ErrArg
	}
	for _, x := range m.added {
		if x.Key == e.Key && x.Seq == e.Seq {
			return api.ErrThere
		}
	}
	m.added = append(m.added, e)
	return api.OK
}

// ordered are the numbers of the entries, as they were added, in the order of entries.
func (m *model) ordered() []int {
	if len(m.order) == len(m.added) {
		return m.order
	}
	l := places(len(m.added))
	sort.Slice(l, func(i, j int) bool {
		a, b := m.added[l[i]], m.added[l[j]]
		return a.Key < b.Key || a.Key == b.Key && a.Seq > b.Seq
	})
	m.order = l
	return l
}

func (m *model) Get(key string, seq int) (best api.Entry, ok bool) {
	for _, e := range m.added {
		if e.Key == key && e.Seq <= seq && e.Seq > best.Seq {
			best, ok = e, true
		}
	}
	return best, ok
}

func (m *model) Scan(s api.Span, seq int) []api.Entry {
	keys := map[string]bool{}
	for _, e := range m.added {
		if e.Key >= s.From && (s.To == "" || e.Key < s.To) {
			keys[e.Key] = true
		}
	}
	var rising []string
	for key := range keys {
		rising = append(rising, key)
	}
	slices.Sort(rising)
	var l []api.Entry
	for _, key := range rising {
		if e, ok := m.Get(key, seq); ok {
			l = append(l, e)
		}
	}
	return l
}

func (m *model) All() iter.Seq[api.Entry] {
	var l []api.Entry
	for _, n := range m.ordered() {
		l = append(l, m.added[n])
	}
	return slices.Values(l)
}

func (m *model) Len() int { return len(m.added) }

func (m *model) Size() (n int) {
	for _, e := range m.added {
		n += len(e.Key) + len(e.Value)
	}
	return n
}

// tower is the height of the entry that was added as the n-th one.
func (m *model) tower(n int) int {
	if len(m.heights) == 0 {
		return 1
	}
	return m.heights[n%len(m.heights)]
}

func (m *model) Lane(h int) []int {
	if h < 1 || h > 12 {
		return nil
	}
	var l []int
	for place, n := range m.ordered() {
		if m.tower(n) >= h {
			l = append(l, place)
		}
	}
	return l
}

// Cost goes from place to place: one stands ahead of the place stand.
func (m *model) Cost(key string, seq int) (steps int) {
	order := m.ordered()
	stand := 0
	for h := 12; h >= 1; h-- {
		for _, place := range m.Lane(h) {
			if place < stand {
				continue
			}
			steps++
			e := m.added[order[place]]
			if e.Key > key || e.Key == key && e.Seq <= seq {
				break
			}
			stand = place + 1
		}
	}
	return steps
}

// fresh is a new table.
func fresh(t testing.TB, heights ...int) *Table {
	t.Helper()
	m, e := New(heights)
	if m == nil || e != api.OK {
		t.Fatalf("New(%v): %v, %v", heights, m, e)
	}
	return m
}

// adds says that all of these are added.
func adds(t testing.TB, m *Table, l ...api.Entry) {
	t.Helper()
	for _, e := range l {
		if fault := m.Add(e); fault != api.OK {
			t.Fatalf("Add of %s at %d: %v", short(e.Key), e.Seq, fault)
		}
	}
}

// holding is a new table with these entries.
func holding(t testing.TB, heights []int, l ...api.Entry) *Table {
	t.Helper()
	m := fresh(t, heights...)
	adds(t, m, l...)
	return m
}

// answers says that a call answered this.
func answers(t testing.TB, what string, got, want api.Errno) {
	t.Helper()
	if got != want {
		t.Errorf("%s: %d, not %d", what, got, want)
	}
}

// has says that the table has just these entries, in this order.
func has(t testing.TB, m *Table, want ...api.Entry) {
	t.Helper()
	if got := slices.Collect(m.All()); !slices.Equal(got, want) {
		t.Errorf("All: %s; not %s", brief(got), brief(want))
	}
	if m.Len() != len(want) {
		t.Errorf("Len: %d, not %d", m.Len(), len(want))
	}
}

// gets says which version Get tells.
func gets(t testing.TB, m *Table, key string, seq int, want api.Entry) {
	t.Helper()
	if got, ok := m.Get(key, seq); got != want || !ok {
		t.Errorf("Get(%s, %d): %s, %v; not %s", short(key), seq, brief(list(got)), ok, brief(list(want)))
	}
}

// misses says that Get tells none.
func misses(t testing.TB, m *Table, key string, seq int) {
	t.Helper()
	if got, ok := m.Get(key, seq); got != (api.Entry{}) || ok {
		t.Errorf("Get(%s, %d): %s, %v; not none", short(key), seq, brief(list(got)), ok)
	}
}

// scans says what Scan tells.
func scans(t testing.TB, m *Table, s api.Span, seq int, want ...api.Entry) {
	t.Helper()
	if got := m.Scan(s, seq); !slices.Equal(got, want) {
		t.Errorf("Scan(%q, %d): %s; not %s", s, seq, brief(got), brief(want))
	}
}

// lane says what Lane tells.
func lane(t testing.TB, m *Table, h int, want ...int) {
	t.Helper()
	if got := m.Lane(h); !slices.Equal(got, want) {
		t.Errorf("Lane(%d): %v, not %v", h, got, want)
	}
}

// costs says what Cost tells.
func costs(t testing.TB, m *Table, key string, seq, want int) {
	t.Helper()
	if got := m.Cost(key, seq); got != want {
		t.Errorf("Cost(%s, %d): %d, not %d", short(key), seq, got, want)
	}
}

// short is a key, or its beginning and its length.
func short(key string) string {
	if len(key) > 12 {
		return fmt.Sprintf("%q*%d", key[:12], len(key))
	}
	return fmt.Sprintf("%q", key)
}

// brief tells entries in a line, of a value its sum.
func brief(l []api.Entry) string {
	var out []string
	for _, e := range l {
		out = append(out, fmt.Sprintf("(%s, %d, %08x*%d, %v)", short(e.Key), e.Seq, crc32.ChecksumIEEE([]byte(e.Value)), len(e.Value), e.Del))
	}
	return strings.Join(out, " ")
}

// seqs are the Seqs at which a table with these entries is asked: those that are there, those beside them, and the ends of all numbers.
func seqs(l []api.Entry) []int {
	all := []int{math.MinInt, -1, 0, 1, 1 << 30, 1<<30 + 1, math.MaxInt}
	for _, e := range l {
		all = append(all, e.Seq-1, e.Seq, e.Seq+1)
	}
	slices.Sort(all)
	return slices.Compact(all)
}

// keys are the keys by which a table with these entries is asked: those that are there, those right behind them, and some that are not.
func keys(l []api.Entry) []string {
	all := []string{"", "\x00", "m", "\xff\xff", long(513)}
	for _, e := range l {
		all = append(all, e.Key, e.Key+"\x00", e.Key[:len(e.Key)-1])
	}
	slices.Sort(all)
	return slices.Compact(all)
}

// tell tells what can be asked of a table: by its entries and those beside them.
func tell(m table) string {
	var out strings.Builder
	all := slices.Collect(m.All())
	fmt.Fprintf(&out, "Len %d, Size %d, All %s\n", m.Len(), m.Size(), brief(all))
	for h := -1; h <= 14; h++ {
		fmt.Fprintf(&out, "Lane(%d) %v\n", h, m.Lane(h))
	}
	for _, seq := range seqs(all) {
		fmt.Fprintf(&out, "at %d: %s\n", seq, brief(m.Scan(api.Span{}, seq)))
		for _, key := range keys(all) {
			e, ok := m.Get(key, seq)
			fmt.Fprintf(&out, "\t%s: Get %s %v, Cost %d\n", short(key), brief(list(e)), ok, m.Cost(key, seq))
		}
	}
	return out.String()
}

// is says that the table answers all as the model: also of all spans between two keys.
func is(t testing.TB, m *Table, want *model) {
	t.Helper()
	if got, should := tell(m), tell(want); got != should {
		t.Fatalf("it tells\n%s\nnot\n%s", got, should)
	}
	ends, all := keys(want.added), seqs(want.added)
	for i, from := range ends {
		for j, to := range ends {
			s, seq := api.Span{From: from, To: to}, all[(5*i+3*j)%len(all)]
			if got, should := m.Scan(s, seq), want.Scan(s, seq); !slices.Equal(got, should) {
				t.Fatalf("Scan from %s to %s at %d: %s; not %s", short(from), short(to), seq, brief(got), brief(should))
			}
		}
	}
}

// various are entries of all kinds: keys that are beginnings of one another, of bytes of all kinds and of all lengths, with several versions, at the ends of all bounds.
func various() []api.Entry {
	return list(
		put("b", 3), put("a", 1), del("a", 7), put("a", 1<<30), put("ab", 5), put("a\x00", 5), put("\x00", 2), del("\xff", 9), put("\xff\xfe", 9),
		put("B", 1), put("b", 1), api.Entry{Key: "e", Seq: 4}, api.Entry{Key: "v", Value: long(4096), Seq: 6}, put(long(512), 6), del(long(511), 6), put("b", 2),
	)
}

// mixed is l in an order that hangs on the seed alone.
func mixed(l []api.Entry, seed uint64) []api.Entry {
	l = slices.Clone(l)
	r := rand.New(rand.NewPCG(seed, 6))
	r.Shuffle(len(l), func(i, j int) { l[i], l[j] = l[j], l[i] })
	return l
}

// shapes are lists of heights: none, one alone, more and fewer than there are entries.
func shapes() [][]int {
	return [][]int{nil, {}, {1}, {12}, {2, 1, 3}, {1, 12}, {12, 1, 1, 1}, {1, 2, 1, 3, 1, 2, 1, 4}, {12, 11, 10, 9, 8, 7, 6, 5, 4, 3, 2, 1}, {1, 2, 3, 4, 5, 6, 7, 8, 9, 10, 11, 12, 1, 2, 3, 4, 5, 6, 7, 8, 9, 10, 11, 12, 5, 5, 5}}
}
