package block

import (
	"math/rand/v2"
	"slices"
	"testing"

	"stagepost/api"
)

// These tests make lists out of any bytes, in order or not, and hold what is answered of them against the model (P7.1 to P7.4), or see that each call ends (P7).

// scripted are the entries that some bytes say, four of them each, seldom one that may not be.
func scripted(b []byte) []api.Entry {
	var l []api.Entry
	for ; len(b) >= 4; b = b[4:] {
		e := api.Entry{Key: string([]byte{'a' + b[0]%5}), Seq: int(b[1])%20 + 1, Del: b[2]%3 == 0}
		for range b[0] / 5 % 4 {
			e.Key += string([]byte{b[0] / 20 % 3 * 127})
		}
		if !e.Del {
			e.Value = string(b[2:4])
		}
		switch b[3] {
		case 0:
			e.Key = ""
		case 1:
			e.Seq = 0
		case 2:
			e.Seq = 1<<30 + 1
		case 3:
			e.Del, e.Value = true, "v"
		case 4:
			e.Seq = -int(b[1])
		case 5:
			e.Key += long(511)
		}
		l = append(l, e)
	}
	return l
}

// holds plays some bytes: the entries that they say, as they are and put in order, and what is asked of them. It answers which errors Check and Merge told.
func holds(t testing.TB, b []byte) (check, merge api.Errno) {
	t.Helper()
	said := scripted(b)
	check = encodes(t, said)
	l := slices.CompactFunc(sorted(said), func(a, b api.Entry) bool { return a.Key == b.Key && a.Seq == b.Seq })
	encodes(t, l)
	encodes(t, l[:min(len(l), 64)])
	parts, asked := [][]api.Entry{}, []int{}
	for i := 0; i < len(b); i += 7 {
		seq, key := int(b[i])%25-2, string([]byte{'a' + b[i]/7%6})
		asked = append(asked, seq)
		finds(t, l, key, seq)
		shows(t, l, api.Span{From: key, To: string([]byte{'a' + b[i]/3%7})}, seq)
		shows(t, l, api.Span{From: key}, seq)
	}
	for i := range 1 + len(b)%5 {
		var part []api.Entry
		for j := i; j < len(l); j += 1 + len(b)%5 {
			part = append(part, l[j])
		}
		parts = append(parts, part)
	}
	merges(t, parts...)
	folds(t, l, asked[:min(len(asked), 4)], len(b)%2 == 0)
	folds(t, l, asked[:min(len(asked), 1)], len(b)%2 == 1)
	// Lists that may be in no order, with entries that may be there again.
	parts = lists(said[:len(said)/2], said[len(said)/2:], l[:len(l)/3])
	merges(t, parts...)
	_, merge = Merge(parts)
	ends(said, asked)
	return check, merge
}

// encodes says that Encode and Check answer as the model, and Decode what was encoded.
func encodes(t testing.TB, l []api.Entry) api.Errno {
	t.Helper()
	want := checked(l)
	_, e := Encode(l)
	if e != want || Check(l) != want {
		t.Fatalf("Check of %s: %d, Encode: %d; not %d", brief(l), Check(l), e, want)
	}
	if e == api.OK {
		good(t, "a list", l, plain(l))
	}
	decodes(t, plain(l))
	return e
}

// ends does each call whose answer is not promised: that it comes is.
func ends(l []api.Entry, asked []int) {
	for _, seq := range asked {
		Find(l, "b", seq)
		Visible(l, api.Span{From: "b", To: "d"}, seq)
		Visible(l, api.Span{}, seq)
	}
	Fold(l, asked, true)
	Fold(l, asked, false)
}

func TestScripts(t *testing.T) {
	checks, merges := map[api.Errno]int{}, map[api.Errno]int{}
	for seed := range uint64(3000) {
		r := rand.New(rand.NewPCG(seed, 7))
		b := make([]byte, r.IntN(1+r.IntN(320)))
		for i := range b {
			b[i] = byte(r.Uint32())
		}
		check, merge := holds(t, b)
		checks[check]++
		merges[merge]++
	}
	// The scripts are worth something: they meet each error.
	for _, e := range []api.Errno{api.OK, api.ErrArg, api.ErrLong, api.ErrOrder} {
		if checks[e] < 20 {
			t.Errorf("Check answered %d just %d times", e, checks[e])
		}
	}
	for _, e := range []api.Errno{api.OK, api.ErrOrder, api.ErrThere} {
		if merges[e] < 20 {
			t.Errorf("Merge answered %d just %d times", e, merges[e])
		}
	}
}

// TestListsInNoOrder: of these nothing is promised but that the calls end.
func TestListsInNoOrder(t *testing.T) {
	r := rand.New(rand.NewPCG(1, 7))
	for range 200 {
		l := append(strange(), crowd(30, 2)...)
		r.Shuffle(len(l), func(i, j int) { l[i], l[j] = l[j], l[i] })
		ends(append(l, l...), seqs(l))
	}
}

func FuzzScript(f *testing.F) {
	f.Add([]byte("aaaabbbbccccdddd"))
	f.Add([]byte("\x00\x09\x01\x09\x00\x05\x00\x09\x00\x02\x01\x09\x01\x02\x03\x09"))
	f.Fuzz(func(t *testing.T, b []byte) {
		holds(t, b[:min(len(b), 400)])
	})
}
