package sst

import (
	"encoding/binary"
	"fmt"
	"hash/crc32"
	"hash/fnv"
	"math"
	"math/rand/v2"
	"slices"
	"strings"
	"testing"

	"stagepost/api"
	"stagepost/block"
)

// put is an entry whose value tells its key and its Seq.
func put(key string, seq int) api.Entry {
	return api.Entry{Key: key, Value: fmt.Sprint(key, "@", seq), Seq: seq}
}

func del(key string, seq int) api.Entry { return api.Entry{Key: key, Seq: seq, Del: true} }

func list(l ...api.Entry) []api.Entry { return l }

// long is a text of n bytes.
func long(n int) string { return strings.Repeat("x", n) }

// row are n puts of keys that rise.
func row(n int) []api.Entry {
	var l []api.Entry
	for i := range n {
		l = append(l, put(fmt.Sprintf("k%05d", i), 5))
	}
	return l
}

// deletes are n deletes of keys of four bytes that rise: a table of them has few bytes.
func deletes(n int) []api.Entry {
	var l []api.Entry
	for i := range n {
		l = append(l, del(fmt.Sprintf("%04x", i), 1))
	}
	return l
}

// versions are n puts of one key, the latest first.
func versions(key string, n int) []api.Entry {
	var l []api.Entry
	for i := range n {
		l = append(l, put(key, 2*(n-i)))
	}
	return l
}

// brief tells entries in a line, of a long text its length, of a value its sum.
func brief(l []api.Entry) string {
	var out []string
	for _, e := range l[:min(len(l), 20)] {
		out = append(out, fmt.Sprintf("(%s, %d, %08x*%d, %v)", short(e.Key), e.Seq, crc32.ChecksumIEEE([]byte(e.Value)), len(e.Value), e.Del))
	}
	if len(l) > 20 {
		out = append(out, fmt.Sprint("and ", len(l)-20, " more"))
	}
	return strings.Join(out, " ")
}

// short is a key, or its beginning and its length.
func short(key string) string {
	if len(key) > 12 {
		return fmt.Sprintf("%q*%d", key[:12], len(key))
	}
	return fmt.Sprintf("%q", key)
}

// The bytes of a table by the chapters' words, with the library's checksums and hashes.

var castagnoli = crc32.MakeTable(crc32.Castagnoli)

func sealed(b []byte) []byte {
	return binary.LittleEndian.AppendUint32(slices.Clone(b), crc32.Checksum(b, castagnoli))
}

func framed(record []byte) []byte {
	head := binary.LittleEndian.AppendUint32(nil, uint32(len(record)))
	return append(sealed(head), sealed(record)...)
}

// unframed is the record with whose frame b begins, and how many bytes that has; 0, if there is none.
func unframed(b []byte) ([]byte, int) {
	if len(b) < 8 || string(sealed(b[:4])) != string(b[:8]) {
		return nil, 0
	}
	n := uint64(binary.LittleEndian.Uint32(b)) + 12
	if n > 1<<20+12 || n > uint64(len(b)) || string(sealed(b[8:n-4])) != string(b[8:n]) {
		return nil, 0
	}
	return b[8 : n-4], int(n)
}

func text(b []byte, s string) []byte {
	return append(binary.AppendUvarint(b, uint64(len(s))), s...)
}

// blockOf are the bytes of a block of any entries, whether they are one or not.
func blockOf(l []api.Entry) []byte {
	b := binary.AppendUvarint(nil, uint64(len(l)))
	for i, e := range l {
		share := 0
		for i%8 != 0 && share < len(e.Key) && strings.HasPrefix(l[i-1].Key, e.Key[:share+1]) {
			share++
		}
		b = text(binary.AppendUvarint(b, uint64(share)), e.Key[share:])
		b = binary.AppendUvarint(b, uint64(e.Seq))
		if e.Del {
			b = append(b, 1)
		} else {
			b = text(append(b, 0), e.Value)
		}
	}
	return b
}

// bitsOf are the bits of a key in a filter of m bits with k rounds.
func bitsOf(key string, k, m int) []uint64 {
	h := fnv.New64a()
	h.Write([]byte(key))
	x := h.Sum64()
	var l []uint64
	for i := range uint64(k) {
		l = append(l, (x&0xffffffff+i*(x>>32|1))%uint64(m))
	}
	return l
}

// filterOf are the bytes of the filter of the entries' Keys.
func filterOf(l []api.Entry, bits int) []byte {
	m := 8
	for m < len(l)*bits {
		m += 8
	}
	b := make([]byte, 1+m/8)
	b[0] = byte((bits*69 + 99) / 100)
	for _, e := range l {
		for _, x := range bitsOf(e.Key, int(b[0]), m) {
			b[1+x/8] |= 1 << (x % 8)
		}
	}
	return b
}

// passes says whether a filter has a key's bits.
func passes(filter []byte, key string) bool {
	for _, x := range bitsOf(key, int(filter[0]), 8*(len(filter)-1)) {
		if filter[1+x/8]>>(x%8)&1 == 0 {
			return false
		}
	}
	return true
}

// full is a filter that has each key's bits.
func full() []byte { return []byte{1, 255} }

// line is what an index says of a block, true or not.
type line struct {
	size uint64
	key  string
	seq  uint64
}

// indexOf are the bytes of an index that says how many lines there are, and these.
func indexOf(count uint64, l ...line) []byte {
	b := binary.AppendUvarint(nil, count)
	for _, x := range l {
		b = text(binary.AppendUvarint(b, x.size), x.key)
		b = binary.AppendUvarint(b, x.seq)
	}
	return b
}

// raw is the records of a table, true or not, and how many entries its footer says.
type raw struct {
	blocks  [][]byte
	filter  []byte
	index   []byte
	entries uint64
}

// parted are the entries of each block.
func parted(l []api.Entry, per int) [][]api.Entry {
	var out [][]api.Entry
	for len(l) > per {
		out = append(out, l[:per])
		l = l[per:]
	}
	return append(out, l)
}

// linesOf are the lines of blocks.
func linesOf(blocks [][]api.Entry) []line {
	var l []line
	for _, x := range blocks {
		last := x[len(x)-1]
		l = append(l, line{uint64(len(framed(blockOf(x)))), last.Key, uint64(last.Seq)})
	}
	return l
}

// rawBlocks are the records of a table with these blocks, whatever stands in them.
func rawBlocks(blocks [][]api.Entry, filter []byte) raw {
	r := raw{filter: filter, index: indexOf(uint64(len(blocks)), linesOf(blocks)...)}
	for _, l := range blocks {
		r.blocks = append(r.blocks, blockOf(l))
		r.entries += uint64(len(l))
	}
	return r
}

func rawOf(l []api.Entry, per, bits int) raw {
	return rawBlocks(parted(l, per), filterOf(l, bits))
}

// body are the frames ahead of the footer's, and where the filter's and the index' one begin.
func (r raw) body() (b []byte, filter, index uint64) {
	for _, x := range r.blocks {
		b = append(b, framed(x)...)
	}
	filter = uint64(len(b))
	b = append(b, framed(r.filter)...)
	index = uint64(len(b))
	return append(b, framed(r.index)...), filter, index
}

func (r raw) bytes() []byte {
	b, filter, index := r.body()
	return footed(b, filter, index, r.entries)
}

// footed is b, and behind it the frame of a footer with these numbers.
func footed(b []byte, words ...uint64) []byte {
	var foot []byte
	for _, x := range words {
		foot = binary.LittleEndian.AppendUint64(foot, x)
	}
	return slices.Concat(b, framed(foot))
}

// frames are where each frame of a table's bytes begins, and where the last one ends.
func frames(t testing.TB, b []byte) []int {
	t.Helper()
	at := []int{0}
	for at[len(at)-1] < len(b) {
		_, n := unframed(b[at[len(at)-1]:])
		if n == 0 {
			t.Fatalf("there is no frame at %d of %d bytes", at[len(at)-1], len(b))
		}
		at = append(at, at[len(at)-1]+n)
	}
	return at
}

// The model: a table by the chapter's words alone, its blocks gone over one by one for each answer.

type model struct {
	blocks  [][]api.Entry
	broken  []bool      // which of them are ErrCorrupt
	lasts   []api.Entry // what the index says of them
	filter  []byte
	entries int
	reads   int
}

func isAhead(a, b api.Entry) bool {
	return a.Key < b.Key || a.Key == b.Key && a.Seq > b.Seq
}

// modelOf is the table of these blocks.
func modelOf(blocks [][]api.Entry, filter []byte) *model {
	m := &model{blocks: blocks, broken: make([]bool, len(blocks)), filter: filter}
	for _, l := range blocks {
		last := l[len(l)-1]
		m.lasts = append(m.lasts, api.Entry{Key: last.Key, Seq: last.Seq})
		m.entries += len(l)
	}
	return m
}

func modelled(l []api.Entry, per, bits int) *model {
	return modelOf(parted(l, per), filterOf(l, bits))
}

func (m *model) read(i int) ([]api.Entry, api.Errno) {
	m.reads++
	if m.broken[i] {
		return nil, api.ErrCorrupt
	}
	return m.blocks[i], api.OK
}

func (m *model) Get(key string, seq int) (api.Entry, bool, api.Errno) {
	wanted := api.Entry{Key: key, Seq: seq}
	if !passes(m.filter, key) || isAhead(m.lasts[len(m.lasts)-1], wanted) {
		return api.Entry{}, false, api.OK
	}
	for i, last := range m.lasts {
		if isAhead(last, wanted) {
			continue
		}
		l, e := m.read(i)
		for _, x := range l {
			if !isAhead(x, wanted) && x.Key == key {
				return x, true, api.OK
			}
			if !isAhead(x, wanted) {
				break
			}
		}
		return api.Entry{}, false, e
	}
	return api.Entry{}, false, api.OK
}

func (m *model) Scan(s api.Span) ([]api.Entry, api.Errno) {
	first := slices.IndexFunc(m.lasts, func(last api.Entry) bool { return last.Key >= s.From })
	if first < 0 {
		return nil, api.OK
	}
	end := len(m.lasts)
	if n := slices.IndexFunc(m.lasts[first:], func(last api.Entry) bool { return last.Key >= s.To }); s.To != "" && n >= 0 {
		end = first + n + 1
	}
	var out []api.Entry
	for i := first; i < end; i++ {
		l, e := m.read(i)
		if e != api.OK {
			return nil, e
		}
		for _, x := range l {
			if x.Key >= s.From && (s.To == "" || x.Key < s.To) {
				out = append(out, x)
			}
		}
	}
	return out, api.OK
}

// opened is the table whose bytes b is, by the chapter's words; false, if Open has to refuse it.
func opened(b []byte) (*model, bool) {
	if len(b) < 36 {
		return nil, false
	}
	end := uint64(len(b) - 36)
	foot, n := unframed(b[end:])
	if n != 36 {
		return nil, false
	}
	filterAt, indexAt, entries := binary.LittleEndian.Uint64(foot), binary.LittleEndian.Uint64(foot[8:]), binary.LittleEndian.Uint64(foot[16:])
	if filterAt > uint64(len(b)) || indexAt > uint64(len(b)) || entries < 1 || entries > 65536 {
		return nil, false
	}
	index, n := unframed(b[indexAt:])
	if n == 0 || indexAt+uint64(n) != end {
		return nil, false
	}
	filter, n := unframed(b[filterAt:])
	if n == 0 || filterAt+uint64(n) != indexAt || len(filter) < 2 || filter[0] < 1 || filter[0] > 12 {
		return nil, false
	}
	lines := guess(index)
	if string(indexOf(uint64(len(lines)), lines...)) != string(index) || !mayBe(lines, filterAt) {
		return nil, false
	}
	m := &model{filter: slices.Clone(filter), entries: int(entries)}
	for _, x := range lines {
		m.take(b[:x.size], x)
		b = b[x.size:]
	}
	return m, true
}

// take takes the next block, of which the index says this.
func (m *model) take(b []byte, x line) {
	record, n := unframed(b)
	l, e := block.Decode(record)
	ok := n == len(b) && e == api.OK && l[len(l)-1].Key == x.key && uint64(l[len(l)-1].Seq) == x.seq
	m.blocks = append(m.blocks, l)
	m.broken = append(m.broken, !ok)
	m.lasts = append(m.lasts, api.Entry{Key: x.key, Seq: int(x.seq)})
}

// guess is the lines that an index' bytes may say, if they say any.
func guess(b []byte) (l []line) {
	number := func() uint64 {
		x, n := binary.Uvarint(b)
		b = b[max(n, 0):]
		return x
	}
	for range min(number(), 65537) {
		x := line{size: number()}
		n := min(number(), uint64(len(b)))
		x.key, b = string(b[:n]), b[n:]
		x.seq = number()
		l = append(l, x)
	}
	return l
}

// mayBe says whether these lines are those of an index of blocks that have so many bytes together.
func mayBe(l []line, size uint64) bool {
	sum := uint64(0)
	for i, x := range l {
		if x.size < 13 || x.size > 1<<20+12 || x.key == "" || len(x.key) > 512 || x.seq < 1 || x.seq > 1<<30 {
			return false
		}
		if i > 0 && !(l[i-1].key < x.key || l[i-1].key == x.key && l[i-1].seq > x.seq) {
			return false
		}
		sum += x.size
	}
	return len(l) >= 1 && len(l) <= 65536 && sum == size
}

// What is asked, and held against the model or against what is written out.

func answers(t testing.TB, what string, got, want api.Errno) {
	t.Helper()
	if got != want {
		t.Errorf("%s: %d, not %d", what, got, want)
	}
}

// built are the bytes that Build answers.
func built(t testing.TB, l []api.Entry, per, bits int) []byte {
	t.Helper()
	b, e := Build(l, per, bits)
	if e != api.OK {
		t.Fatalf("Build of %d entries, per %d, bits %d: %d", len(l), per, bits, e)
	}
	return b
}

// open is the table that Open answers.
func open(t testing.TB, b []byte) *Table {
	t.Helper()
	x, e := Open(b)
	if x == nil || e != api.OK {
		t.Fatalf("Open of %d bytes: %v, %d", len(b), x != nil, e)
	}
	if x.Reads() != 0 {
		t.Fatalf("behind Open %d blocks are read", x.Reads())
	}
	return x
}

// table is that of these entries.
func table(t testing.TB, l []api.Entry, per, bits int) *Table {
	t.Helper()
	return open(t, built(t, l, per, bits))
}

// corrupt says that Open refuses these bytes, and that it should.
func corrupt(t testing.TB, what string, b []byte) {
	t.Helper()
	if x, e := Open(b); x != nil || e != api.ErrCorrupt {
		t.Errorf("Open of %s: %v, %d", what, x != nil, e)
	}
	if _, ok := opened(b); ok {
		t.Errorf("%s: the chapter's words don't refuse it", what)
	}
}

// sound says that Open takes these bytes, and that it should. It answers the table, and the model of it.
func sound(t testing.TB, what string, b []byte) (*Table, *model) {
	t.Helper()
	x, e := Open(b)
	m, ok := opened(b)
	if x == nil || e != api.OK || !ok {
		t.Fatalf("Open of %s: %v, %d; by the chapter's words %v", what, x != nil, e, ok)
	}
	return x, m
}

// gets says that Get answers as the model, and reads as many blocks.
func gets(t testing.TB, x *Table, m *model, key string, seq int) {
	t.Helper()
	was := m.reads
	want, there, fault := m.Get(key, seq)
	if got, ok, e := x.Get(key, seq); got != want || ok != there || e != fault || x.Reads() != m.reads {
		t.Fatalf("Get of %s at %d: %s, %v, %d; not %s, %v, %d; from %d on it read %d blocks, not %d", short(key), seq, brief(list(got)), ok, e, brief(list(want)), there, fault, was, x.Reads()-was, m.reads-was)
	}
}

// scans says that Scan answers as the model, and reads as many blocks.
func scans(t testing.TB, x *Table, m *model, s api.Span) {
	t.Helper()
	was := m.reads
	want, fault := m.Scan(s)
	if got, e := x.Scan(s); !slices.Equal(got, want) || e != fault || x.Reads() != m.reads || e != api.OK && got != nil {
		t.Fatalf("Scan from %s to %s: %s, %d; not %s, %d; from %d on it read %d blocks, not %d", short(s.From), short(s.To), brief(got), e, brief(want), fault, was, x.Reads()-was, m.reads-was)
	}
}

// says says that Len, Blocks, Last and Reads are those of the model.
func says(t testing.TB, x *Table, m *model) {
	t.Helper()
	last := m.lasts[len(m.lasts)-1].Key
	if x.Len() != m.entries || x.Blocks() != len(m.lasts) || x.Last() != last || x.Reads() != m.reads {
		t.Fatalf("Len %d, Blocks %d, Last %s, Reads %d; not %d, %d, %s, %d", x.Len(), x.Blocks(), short(x.Last()), x.Reads(), m.entries, len(m.lasts), short(last), m.reads)
	}
}

// same says that the table answers all as the model: each key at each Seq, each span between two keys, all entries.
func same(t testing.TB, x *Table, m *model) {
	t.Helper()
	says(t, x, m)
	asked := slices.Concat(append(m.blocks, m.lasts)...)
	for _, key := range keys(asked) {
		for _, seq := range seqs(asked) {
			gets(t, x, m, key, seq)
		}
	}
	for _, from := range keys(asked) {
		for _, to := range keys(asked) {
			scans(t, x, m, api.Span{From: from, To: to})
		}
	}
	want, fault := m.Scan(api.Span{})
	if got, e := x.All(); !slices.Equal(got, want) || e != fault || e != api.OK && got != nil {
		t.Fatalf("All: %s, %d; not %s, %d", brief(got), e, brief(want), fault)
	}
	says(t, x, m)
}

// Lists of which tables are made.

// sorted is l in order.
func sorted(l []api.Entry) []api.Entry {
	slices.SortFunc(l, func(a, b api.Entry) int {
		switch {
		case isAhead(a, b):
			return -1
		case isAhead(b, a):
			return 1
		}
		return 0
	})
	return l
}

// various are entries of all kinds: keys that are beginnings of one another, of bytes of all kinds and of all lengths, with several versions, at the ends of all bounds.
func various() []api.Entry {
	return sorted(list(
		put("b", 3), put("a", 1), del("a", 7), put("a", 1<<30), put("ab", 5), put("a\x00", 5), put("\x00", 2), del("\xff", 9), put("\xff\xfe", 9),
		put("B", 1), put("b", 1), api.Entry{Key: "e", Seq: 4}, put(long(512), 6), del(long(511), 6), put("b", 2),
	))
}

// crowd are n entries of few keys, in order, that hang on the seed alone.
func crowd(n int, seed uint64) []api.Entry {
	r := rand.New(rand.NewPCG(seed, 9))
	var l []api.Entry
	for len(l) < n {
		e := put(string([]byte("abcdefghij")[r.IntN(10)])+strings.Repeat("\x00", r.IntN(2)), 1+r.IntN(3*n))
		if r.IntN(3) == 0 {
			e = del(e.Key, e.Seq)
		}
		if !slices.ContainsFunc(l, func(x api.Entry) bool { return x.Key == e.Key && x.Seq == e.Seq }) {
			l = append(l, e)
		}
	}
	return sorted(l)
}

// samples are entries of tables.
func samples() map[string][]api.Entry {
	return map[string][]api.Entry{
		"the chapter's":  chapter(),
		"a put":          list(put("a", 1)),
		"a delete":       list(del("a", 1)),
		"all kinds":      various(),
		"nine keys":      row(9),
		"versions":       slices.Concat(list(put("j", 3)), versions("k", 7), list(put("l", 5), put("l", 4))),
		"few keys":       crowd(12, 1),
		"deletes":        deletes(5),
		"the last Seq":   list(put("a", 1<<30), put("b", 1<<30), put("b", 1<<30-1)),
		"a great value":  list(put("a", 1), api.Entry{Key: "b", Value: long(4096), Seq: 1}, del("b\x00", 3)),
		"bytes 0, bytes": list(put("\x00", 1), put("\x00\x00", 1), put("\x00\x00\x00", 2), put("\x00\x00\x00", 1), put("\x00\x01", 1)),
	}
}

// shapes are pairs of per and bits.
func shapes() [][2]int {
	return [][2]int{{1, 1}, {1, 10}, {2, 10}, {2, 16}, {3, 4}, {7, 10}, {8, 1}, {9, 12}, {63, 2}, {64, 16}}
}

// seqs are the Seqs at which these entries are asked: those that are there, those beside them, and the ends of all numbers.
func seqs(l []api.Entry) []int {
	all := []int{math.MinInt, -1, 0, 1, 1<<30 - 1, 1 << 30, 1<<30 + 1, math.MaxInt}
	for _, e := range l {
		all = append(all, e.Seq-1, e.Seq, e.Seq+1)
	}
	slices.Sort(all)
	return slices.Compact(all)
}

// keys are the keys by which these entries are asked: those that are there, those right behind them, and some that are not.
func keys(l []api.Entry) []string {
	all := []string{"", "\x00", "m", "\xff\xff", long(513)}
	for _, e := range l {
		all = append(all, e.Key, e.Key+"\x00", e.Key[:max(len(e.Key)-1, 0)])
	}
	slices.Sort(all)
	return slices.Compact(all)
}
