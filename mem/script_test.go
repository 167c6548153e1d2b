package mem

import (
	"fmt"
	"iter"
	"math/rand/v2"
	"slices"
	"testing"

	"stagepost/api"
)

// These tests play scripts of calls to a table and to the model of one, and hold what they answer against each other (P6.2 to P6.4).

// scripted is the entry that some bytes of a script say, seldom one that may not be.
func scripted(c [4]byte) api.Entry {
	e := api.Entry{Key: string(byte('a' + c[1]%6)), Seq: int(c[2])%24 + 1}
	for range c[1] / 6 % 3 {
		e.Key += string([]byte{c[1] / 18 % 3 * 127})
	}
	switch c[3] {
	case 0:
		e.Key = ""
	case 1:
		e.Seq = 0
	case 2:
		e.Seq = 1<<30 + 1
	case 3:
		e.Del, e.Value = true, "v"
	case 4:
		e.Key = long(513)
	case 5:
		e.Value = long(4097)
	case 6:
		e.Seq = 1 << 30
	default:
		if e.Del = c[3]%4 == 0; !e.Del {
			e.Value = fmt.Sprint("v", c[3])
		}
	}
	return e
}

// play does to a table what some bytes of a script say, and tells what came of it: which call it was, and its answer.
func play(m table, c [4]byte) (what, answer string) {
	e := scripted(c)
	switch c[0] % 16 {
	case 0:
		x, ok := m.Get(e.Key, int(c[3])%30-2)
		return "Get", fmt.Sprint(ok, x)
	case 1:
		other := scripted([4]byte{0, c[2], c[1], 200})
		return "Scan", brief(m.Scan(api.Span{From: e.Key, To: other.Key}, int(c[3])%30-2))
	case 2:
		return "Scan of one key", brief(m.Scan(alone(e.Key), int(c[3])%30-2))
	case 3:
		return "Scan without an end", brief(m.Scan(api.Span{From: e.Key}, int(c[3])%30-2))
	case 4:
		return "Lane", fmt.Sprint(m.Lane(int(c[1])%15 - 1))
	case 5:
		return "Cost", fmt.Sprint(m.Cost(e.Key, int(c[3])%30-2))
	default:
		fault := m.Add(e)
		return fmt.Sprint("Add ", int(fault)), fmt.Sprint(m.Len(), m.Size())
	}
}

// holds plays a script to both. It answers how often which call was done.
func holds(t testing.TB, heights []int, b []byte) map[string]int {
	t.Helper()
	m, want := fresh(t, heights...), &model{heights: heights}
	seen := map[string]int{}
	var all iter.Seq[api.Entry] = m.All()
	var were []api.Entry
	for n := 0; len(b) >= 4; n, b = n+1, b[4:] {
		c := [4]byte(b)
		what, got := play(m, c)
		_, should := play(want, c)
		if got != should {
			t.Fatalf("heights %v, the call %d, %s of %v: %s; not %s", heights, n, what, c, got, should)
		}
		seen[what]++
		if n%16 == 0 {
			if got := slices.Collect(all); !slices.Equal(got, were) {
				t.Fatalf("heights %v, the call %d: All goes over %s; not %s", heights, n, brief(got), brief(were))
			}
			all, were = m.All(), slices.Collect(want.All())
		}
	}
	if got, should := tell(m), tell(want); got != should {
		t.Fatalf("heights %v: it tells\n%s\nnot\n%s", heights, got, should)
	}
	return seen
}

func TestScripts(t *testing.T) {
	seen := map[string]int{}
	for seed := range uint64(120) {
		r := rand.New(rand.NewPCG(seed, 6))
		b := make([]byte, 500)
		for i := range b {
			b[i] = byte(r.Uint32())
		}
		var heights []int
		for range r.IntN(30) {
			heights = append(heights, 1+r.IntN(1+r.IntN(12)))
		}
		for what, n := range holds(t, heights, b) {
			seen[what] += n
		}
	}
	// The scripts are worth something: they meet each call, and each error.
	for _, what := range []string{"Get", "Scan", "Scan of one key", "Scan without an end", "Lane", "Cost", "Add 0", "Add 2", "Add 9"} {
		if seen[what] < 100 {
			t.Errorf("%s: %d times", what, seen[what])
		}
	}
}

func FuzzScript(f *testing.F) {
	f.Add([]byte{2, 1, 3}, []byte("\x06aaa\x06bbb\x06abb\x00aaa\x01aaa\x04aaa\x05aaa"))
	f.Add([]byte{}, []byte("\x06aaz\x06aby\x06acx\x03aaa"))
	f.Fuzz(func(t *testing.T, towers, b []byte) {
		var heights []int
		for _, h := range towers {
			heights = append(heights, 1+int(h)%12)
		}
		holds(t, heights, b[:min(len(b), 400)])
	})
}
