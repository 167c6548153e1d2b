package bloom

import (
	"bytes"
	"testing"

	"stagepost/api"
)

// These are the tests of P8.3.

// both says that Both answers as the chapter says, bit by bit.
func both(t testing.TB, a, b []byte) api.Errno {
	t.Helper()
	got, e := Both(a, b)
	want := united(a, b)
	if e != want {
		t.Fatalf("Both of %s, %s: %v, not %v", brief(a), brief(b), e, want)
	}
	if e != api.OK {
		refused(t, "Both", got, e, want)
		return e
	}
	if len(got) != len(a) || got[0] != a[0] {
		t.Fatalf("Both of %s, %s: %s", brief(a), brief(b), brief(got))
	}
	for i := range 8 * (len(a) - 1) {
		if isOne(got, i) != (isOne(a, i) || isOne(b, i)) {
			t.Fatalf("Both of %s, %s: the bit %d of %s", brief(a), brief(b), i, brief(got))
		}
	}
	return e
}

// united says which error Both is to answer.
func united(a, b []byte) api.Errno {
	switch {
	case checked(a) != api.OK:
		return checked(a)
	case checked(b) != api.OK:
		return checked(b)
	case len(a) != len(b), a[0] != b[0]:
		return api.ErrArg
	}
	return api.OK
}

func TestBothOfExamples(t *testing.T) {
	for _, c := range []struct {
		a, b, want []byte
		e          api.Errno
	}{
		{[]byte{1, 0}, []byte{1, 0}, []byte{1, 0}, api.OK},
		{[]byte{12, 1}, []byte{12, 2}, []byte{12, 3}, api.OK},
		{[]byte{12, 1}, []byte{12, 1}, []byte{12, 1}, api.OK},
		{[]byte{7, 255}, []byte{7, 0}, []byte{7, 255}, api.OK},
		{[]byte{7, 240, 0, 129}, []byte{7, 15, 8, 128}, []byte{7, 255, 8, 129}, api.OK},
		{[]byte{7, 1}, []byte{6, 1}, nil, api.ErrArg},
		{[]byte{7, 1}, []byte{7, 1, 0}, nil, api.ErrArg},
		{[]byte{7, 1, 0}, []byte{7, 1}, nil, api.ErrArg},
		{[]byte{7, 1, 0}, []byte{6, 1}, nil, api.ErrArg},
		{[]byte{0, 1}, []byte{7, 1}, nil, api.ErrBad},
		{[]byte{7, 1}, []byte{13, 1}, nil, api.ErrBad},
		{[]byte{0, 1}, []byte{0, 1}, nil, api.ErrBad},
		{[]byte{13, 1}, []byte{13, 1}, nil, api.ErrBad},
		{[]byte{7}, []byte{7}, nil, api.ErrBad},
		{[]byte{7}, []byte{7, 1}, nil, api.ErrBad},
		{[]byte{7, 1}, []byte{7}, nil, api.ErrBad},
		{nil, nil, nil, api.ErrBad},
		{nil, []byte{7, 1}, nil, api.ErrBad},
		{[]byte{7, 1}, nil, nil, api.ErrBad},
		{[]byte{}, []byte{}, nil, api.ErrBad},
	} {
		got, e := Both(c.a, c.b)
		if !bytes.Equal(got, c.want) || e != c.e || e != api.OK && got != nil {
			t.Errorf("Both of %v, %v: %v, %v; not %v, %v", c.a, c.b, got, e, c.want, c.e)
		}
	}
}

func TestBothOfAllBytes(t *testing.T) {
	for a := range 256 {
		for b := range 256 {
			both(t, []byte{5, byte(a)}, []byte{5, byte(b)})
			both(t, []byte{12, 1, byte(a), 0}, []byte{12, 128, byte(b), 255})
		}
	}
}

func TestBothOfEachPairOfFirstBytes(t *testing.T) {
	for a := range 256 {
		for b := range 256 {
			want := api.ErrBad
			if a >= 1 && a <= 12 && b >= 1 && b <= 12 {
				want = api.ErrArg
				if a == b {
					want = api.OK
				}
			}
			if got := both(t, []byte{byte(a), 3, 9}, []byte{byte(b), 4, 9}); got != want {
				t.Errorf("Both, the first bytes %d and %d: %v, not %v", a, b, got, want)
			}
		}
	}
}

// TestBothTellsTheFirstError: a bad one is told ahead of unlike lengths and unlike first bytes (rule 1).
func TestBothTellsTheFirstError(t *testing.T) {
	bads := [][]byte{nil, {}, {0}, {1}, {12}, {13}, {0, 1}, {13, 1}, {255, 1}, {0, 1, 2, 3}, {13, 1, 2, 3}}
	goods := [][]byte{{1, 0}, {12, 255}, {7, 1, 2}, {7, 1, 2, 3}, {1, 0, 0, 0}}
	for _, a := range bads {
		for _, b := range append(bads, goods...) {
			for _, got := range []api.Errno{both(t, a, b), both(t, b, a)} {
				if got != api.ErrBad {
					t.Errorf("Both of %v, %v: %v", a, b, got)
				}
			}
		}
	}
	for i, a := range goods {
		for j, b := range goods {
			if got := both(t, a, b); (got == api.OK) != (i == j) || i != j && got != api.ErrArg {
				t.Errorf("Both of %v, %v: %v", a, b, got)
			}
		}
	}
}

func TestBothOfUnlikeLengths(t *testing.T) {
	for n := 1; n < 20; n++ {
		for m := 1; m < 20; m++ {
			a, b := make([]byte, 1+n), make([]byte, 1+m)
			a[0], b[0] = 7, 7
			if got := both(t, a, b); (got == api.OK) != (n == m) {
				t.Errorf("Both of filters of %d and %d bytes: %v", n, m, got)
			}
		}
	}
}

// TestBothOfOneWithItself: handed in twice, it is answered as it is.
func TestBothOfOneWithItself(t *testing.T) {
	for d := 1; d <= 16; d++ {
		filter := made(t, texts(), d)
		if got, e := Both(filter, filter); !bytes.Equal(got, filter) || e != api.OK {
			t.Errorf("Both of %s with itself: %s, %v", brief(filter), brief(got), e)
		}
	}
}

func FuzzBoth(f *testing.F) {
	f.Add([]byte{7, 1, 2}, []byte{7, 4, 2})
	f.Add([]byte{7, 1}, []byte{6, 1})
	f.Add([]byte{7}, []byte{13, 1})
	f.Fuzz(func(t *testing.T, a, b []byte) {
		both(t, a, b)
		both(t, b, a)
		both(t, a, a)
		n := min(len(a), len(b))
		if both(t, a[:n], b[:n]) == api.ErrArg {
			both(t, a[:n], append([]byte{a[0]}, b[1:n]...))
		}
	})
}
