package block

import (
	"encoding/binary"
	"fmt"
	"hash/crc32"
	"math"
	"math/rand/v2"
	"slices"
	"strings"
	"testing"

	"stagepost/api"
)

// put is an entry whose value tells its key and its Seq.
func put(key string, seq int) api.Entry {
	return api.Entry{Key: key, Value: fmt.Sprint(key, "@", seq), Seq: seq}
}

func del(key string, seq int) api.Entry { return api.Entry{Key: key, Seq: seq, Del: true} }

func list(l ...api.Entry) []api.Entry { return l }

func lists(l ...[]api.Entry) [][]api.Entry { return l }

// long is a text of n bytes.
func long(n int) string { return strings.Repeat("x", n) }

// row are n puts of keys that rise.
func row(n int) []api.Entry {
	var l []api.Entry
	for i := range n {
		l = append(l, put(fmt.Sprintf("k%04d", i), 5))
	}
	return l
}

// alone is the span of one key.
func alone(key string) api.Span { return api.Span{From: key, To: key + "\x00"} }

// brief tells entries in a line, of a long text its length, of a value its sum.
func brief(l []api.Entry) string {
	var out []string
	for _, e := range l {
		key := fmt.Sprintf("%q", e.Key)
		if len(e.Key) > 12 {
			key = fmt.Sprintf("%q*%d", e.Key[:12], len(e.Key))
		}
		out = append(out, fmt.Sprintf("(%s, %d, %08x*%d, %v)", key, e.Seq, crc32.ChecksumIEEE([]byte(e.Value)), len(e.Value), e.Del))
	}
	return strings.Join(out, " ")
}

// The model: each call by the chapter's words alone, gone over anew for each answer, without a thought of what it takes.

func mayBe(e api.Entry) bool {
	if e.Seq < 1 || e.Seq > 1<<30 {
		return false
	}
	if len(e.Key) < 1 || len(e.Key) > 512 || len(e.Value) > 4096 {
		return false
	}
	return !e.Del || e.Value == ""
}

func isAhead(a, b api.Entry) bool {
	return a.Key < b.Key || a.Key == b.Key && a.Seq > b.Seq
}

// ordered says whether each one is ahead of each that stands behind it.
func ordered(l []api.Entry) bool {
	for i := range l {
		if i > 0 && !isAhead(l[i-1], l[i]) {
			return false
		}
	}
	return true
}

func checked(l []api.Entry) api.Errno {
	switch {
	case len(l) == 0:
		return api.ErrArg
	case len(l) > 64:
		return api.ErrLong
	case slices.ContainsFunc(l, func(e api.Entry) bool { return !mayBe(e) }):
		return api.ErrArg
	case !ordered(l):
		return api.ErrOrder
	}
	return api.OK
}

// piece is an entry as its bytes say it, true or not.
type piece struct {
	share uint64
	left  string
	seq   uint64
	mark  byte
	value string
}

func (p piece) bytes() []byte {
	b := binary.AppendUvarint(nil, p.share)
	b = append(binary.AppendUvarint(b, uint64(len(p.left))), p.left...)
	b = append(binary.AppendUvarint(b, p.seq), p.mark)
	if p.mark == 0 {
		b = append(binary.AppendUvarint(b, uint64(len(p.value))), p.value...)
	}
	return b
}

// laid are the bytes that say how many pieces there are, and these.
func laid(count uint64, l ...piece) []byte {
	b := binary.AppendUvarint(nil, count)
	for _, p := range l {
		b = append(b, p.bytes()...)
	}
	return b
}

// pieces are those of any entries.
func pieces(l []api.Entry) []piece {
	var out []piece
	for i, e := range l {
		p := piece{left: e.Key, seq: uint64(e.Seq), value: e.Value}
		if e.Del {
			p.mark = 1
		}
		for i%8 != 0 && p.left != "" && strings.HasPrefix(l[i-1].Key, e.Key[:p.share+1]) {
			p.share++
			p.left = e.Key[p.share:]
		}
		out = append(out, p)
	}
	return out
}

// plain are the bytes of any entries, whether they are a block or not.
func plain(l []api.Entry) []byte {
	return laid(uint64(len(l)), pieces(l)...)
}

// guess is the entries that bytes may say, if they say any.
func guess(b []byte) (l []api.Entry) {
	number := func() uint64 {
		x, n := binary.Uvarint(b)
		b = b[max(n, 0):]
		return x
	}
	text := func() string {
		n := min(number(), uint64(len(b)))
		s := string(b[:n])
		b = b[n:]
		return s
	}
	key := ""
	for range min(number(), 65) {
		share := min(number(), uint64(len(key)))
		key = key[:share] + text()
		e := api.Entry{Key: key, Seq: int(number())}
		if e.Del = number() == 1; !e.Del {
			e.Value = text()
		}
		l = append(l, e)
	}
	return l
}

// decoded is the block whose bytes b is.
func decoded(b []byte) ([]api.Entry, api.Errno) {
	if l := guess(b); checked(l) == api.OK && string(plain(l)) == string(b) {
		return l, api.OK
	}
	return nil, api.ErrBad
}

func found(l []api.Entry, key string, seq int) (best api.Entry, ok bool) {
	for _, e := range l {
		if e.Key == key && e.Seq <= seq && (!ok || e.Seq > best.Seq) {
			best, ok = e, true
		}
	}
	return best, ok
}

func seen(l []api.Entry, s api.Span, seq int) []api.Entry {
	var keys []string
	for _, e := range l {
		if e.Key >= s.From && (s.To == "" || e.Key < s.To) {
			keys = append(keys, e.Key)
		}
	}
	slices.Sort(keys)
	var out []api.Entry
	for _, key := range slices.Compact(keys) {
		if e, ok := found(l, key, seq); ok {
			out = append(out, e)
		}
	}
	return out
}

// sorted is l in order.
func sorted(l []api.Entry) []api.Entry {
	l = slices.Clone(l)
	slices.SortStableFunc(l, func(a, b api.Entry) int {
		switch {
		case isAhead(a, b):
			return -1
		case isAhead(b, a):
			return 1
		}
		return 0
	})
	return l
}

func merged(l [][]api.Entry) ([]api.Entry, api.Errno) {
	for _, x := range l {
		if !ordered(x) {
			return nil, api.ErrOrder
		}
	}
	out := sorted(slices.Concat(l...))
	if !ordered(out) {
		return nil, api.ErrThere
	}
	return out, api.OK
}

func folded(l []api.Entry, keep []int, last bool) []api.Entry {
	var stayed []api.Entry
	for _, e := range l {
		for _, seq := range append([]int{1 << 30}, keep...) {
			if x, ok := found(l, e.Key, seq); ok && x.Seq == e.Seq {
				stayed = append(stayed, e)
				break
			}
		}
	}
	if !last {
		return stayed
	}
	var out []api.Entry
	for i, e := range stayed {
		// A delete stays, if an older put of its key stays.
		if !e.Del || slices.ContainsFunc(stayed[i:], func(x api.Entry) bool { return x.Key == e.Key && !x.Del }) {
			out = append(out, e)
		}
	}
	return out
}

// What is asked, and held against the model or against what is written out.

func answers(t testing.TB, what string, got, want api.Errno) {
	t.Helper()
	if got != want {
		t.Errorf("%s: %d, not %d", what, got, want)
	}
}

// finds says that Find answers as the model.
func finds(t testing.TB, l []api.Entry, key string, seq int) {
	t.Helper()
	want, there := found(l, key, seq)
	if got, ok := Find(l, key, seq); got != want || ok != there {
		t.Fatalf("Find of %q at %d in %s: %s, %v; not %s, %v", key, seq, brief(l), brief(list(got)), ok, brief(list(want)), there)
	}
}

// shows says that Visible answers as the model.
func shows(t testing.TB, l []api.Entry, s api.Span, seq int) {
	t.Helper()
	want := seen(l, s, seq)
	if got := Visible(l, s, seq); !slices.Equal(got, want) {
		t.Fatalf("Visible of %q at %d in %s: %s; not %s", s, seq, brief(l), brief(got), brief(want))
	}
}

// merges says that Merge answers as the model.
func merges(t testing.TB, l ...[]api.Entry) {
	t.Helper()
	want, e := merged(l)
	got, f := Merge(l)
	if f != e || !slices.Equal(got, want) || f != api.OK && got != nil {
		t.Fatalf("Merge of %d lists, %s: %s, %d; not %s, %d", len(l), brief(slices.Concat(l...)), brief(got), f, brief(want), e)
	}
}

// folds says that Fold answers as the model.
func folds(t testing.TB, l []api.Entry, keep []int, last bool) {
	t.Helper()
	want := folded(l, keep, last)
	if got := Fold(l, keep, last); !slices.Equal(got, want) {
		t.Fatalf("Fold of %s, keep %v, last %v: %s; not %s", brief(l), keep, last, brief(got), brief(want))
	}
}

// Lists that are asked of.

// various are entries of all kinds, in order: keys that are beginnings of one another, of bytes of all kinds and of all lengths, with several versions, at the ends of all bounds.
func various() []api.Entry {
	return sorted(list(
		put("b", 3), put("a", 1), del("a", 7), put("a", 1<<30), put("ab", 5), put("a\x00", 5), put("\x00", 2), del("\xff", 9), put("\xff\xfe", 9),
		put("B", 1), put("b", 1), api.Entry{Key: "e", Seq: 4}, api.Entry{Key: "v", Value: long(4096), Seq: 6}, put(long(512), 6), del(long(511), 6), put("b", 2),
	))
}

// strange are entries in order of which none may be: all but Check, Encode and Decode take them.
func strange() []api.Entry {
	return sorted(list(
		put("", 3), put("", 0), del("", -4), put("a", math.MaxInt), put("a", 1<<30+1), del("a", 0), put("a", -1), put("a", math.MinInt),
		api.Entry{Key: "d", Value: "v", Seq: 0, Del: true}, api.Entry{Key: "d", Value: long(5000), Seq: -9}, put(long(600), 1<<40), del(long(600), 1<<30+2),
	))
}

// crowd are n entries of few keys, in order, that hang on the seed alone.
func crowd(n int, seed uint64) []api.Entry {
	r := rand.New(rand.NewPCG(seed, 7))
	var l []api.Entry
	for len(l) < n {
		e := put(string([]byte("abcdefghij")[r.IntN(10)])+strings.Repeat("\x00", r.IntN(2)), 1+r.IntN(3*n))
		if r.IntN(3) == 0 {
			e = del(e.Key, e.Seq)
		}
		if !slices.ContainsFunc(l, func(x api.Entry) bool { return x.Key == e.Key && x.Seq == e.Seq }) {
			l = append(l, e)
		}
	}
	return sorted(l)
}

// samples are lists in order, from none on.
func samples() [][]api.Entry {
	l := lists(nil, list(put("a", 1)), list(del("a", 1)), list(put("a", 3), del("a", 1)), row(8), row(9), row(64), row(65), row(200), various(), strange())
	for seed := range uint64(6) {
		l = append(l, crowd(5+9*int(seed), seed))
	}
	return l
}

// seqs are the Seqs at which these entries are asked: those that are there, those beside them, and the ends of all numbers.
func seqs(l []api.Entry) []int {
	all := []int{math.MinInt, -1, 0, 1, 1<<30 - 1, 1 << 30, 1<<30 + 1, math.MaxInt}
	for _, e := range l {
		all = append(all, e.Seq-1, e.Seq, e.Seq+1)
	}
	slices.Sort(all)
	return slices.Compact(all)
}

// keys are the keys by which these entries are asked: those that are there, those right behind them, and some that are not.
func keys(l []api.Entry) []string {
	all := []string{"", "\x00", "m", "\xff\xff", long(513)}
	for _, e := range l {
		all = append(all, e.Key, e.Key+"\x00", e.Key[:max(len(e.Key)-1, 0)])
	}
	slices.Sort(all)
	return slices.Compact(all)
}
