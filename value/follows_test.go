package value

import (
	"slices"
	"testing"

	"stagepost/api"
	"stagepost/enc"
)

// These are the tests of P12.4 and P12.5.

func TestJustOneOfLessEqualGreater(t *testing.T) {
	for _, l := range lists(2, edgeValues()[1:]) {
		if l[0].Kind != l[1].Kind {
			continue
		}
		n := 0
		for _, op := range []api.Op{api.OpLt, api.OpEq, api.OpGt} {
			if True(mustDo(t, op, l...)) {
				n++
			}
		}
		if n != 1 {
			t.Errorf("%d of OpLt, OpEq, OpGt of %v are true", n, l)
		}
		for op, not := range map[api.Op]api.Op{api.OpNe: api.OpEq, api.OpGe: api.OpLt, api.OpLe: api.OpGt} {
			wants(t, mustDo(t, api.OpNot, mustDo(t, not, l...)), op, l...)
		}
	}
}

func TestNotOfAndIsOrOfNots(t *testing.T) {
	for _, l := range lists(2, list(null(), no(), yes())) {
		a, b := mustDo(t, api.OpNot, l[0]), mustDo(t, api.OpNot, l[1])
		wants(t, mustDo(t, api.OpOr, a, b), api.OpNot, mustDo(t, api.OpAnd, l...))
		wants(t, mustDo(t, api.OpAnd, a, b), api.OpNot, mustDo(t, api.OpOr, l...))
	}
}

func TestDivAndModTogether(t *testing.T) {
	done := 0
	for _, a := range edgeInts() {
		for _, b := range edgeInts() {
			q, e := Do(api.OpDiv, num(a), num(b))
			r, f := Do(api.OpMod, num(a), num(b))
			if (e == api.ErrZero) != (b == 0) || (f == api.ErrZero) != (b == 0) {
				t.Errorf("OpDiv and OpMod of %d, %d: %v, %v", a, b, e, f)
			}
			if e != api.OK || f != api.OK {
				continue
			}
			done++
			wants(t, num(a), api.OpAdd, mustDo(t, api.OpMul, num(b), q), r)
			if r.Int != 0 && (r.Int < 0) != (a < 0) {
				t.Errorf("OpMod of %d, %d: %v", a, b, r)
			}
		}
	}
	if done < 100 {
		t.Errorf("%d pairs alone were not refused", done)
	}
}

func TestWhatIsNotNullComesTheSame(t *testing.T) {
	for _, op := range logical {
		for _, l := range lists(2, list(null(), no(), yes())) {
			got := mustDo(t, op, l...)
			if got == null() {
				continue
			}
			for i, v := range l {
				if v != null() {
					continue
				}
				for _, stands := range list(null(), no(), yes()) {
					other := slices.Clone(l)
					other[i] = stands
					wants(t, got, op, other...)
				}
			}
		}
	}
}

// TestNullOnlyWhereItMatters: where OpAnd or OpOr is Null, what stands for the Null decides.
func TestNullOnlyWhereItMatters(t *testing.T) {
	for _, op := range logical {
		for _, known := range list(no(), yes()) {
			a, b := mustDo(t, op, no(), known), mustDo(t, op, yes(), known)
			if got := mustDo(t, op, null(), known); (got == null()) != (a != b) {
				t.Errorf("Do of %d, Null, %v: %v", op, known, got)
			}
		}
	}
}

// followsGives holds Do's answer against that of Gives, of the same kinds.
func followsGives(t *testing.T, op api.Op, l []api.Value) {
	t.Helper()
	v, e := Do(op, l...)
	kind, given := Gives(op, kindsOf(l)...)
	switch {
	case e == api.OK && (enc.Check(v) != api.OK || v.Kind != api.Null && v.Kind != kind || given != api.OK):
		t.Errorf("Do of %d, %v: %v, where Gives is %v, %v", op, l, v, kind, given)
	case (e == api.ErrType) != (given == api.ErrType) || given == api.ErrArg:
		t.Errorf("Do of %d, %v: %v, where Gives is %v, %v", op, l, e, kind, given)
	}
}

func TestDoAnswersTheKindThatGivesTells(t *testing.T) {
	for _, op := range operations {
		for _, l := range lists(Takes(op), edgeValues()) {
			followsGives(t, op, l)
		}
	}
}

// TestNullsOfAnyColumn: what is refused of two columns by their kinds is not refused where both have a Null.
func TestNullsOfAnyColumn(t *testing.T) {
	givesError(t, api.ErrType, api.OpAdd, api.Bool, api.Text)
	wants(t, null(), api.OpAdd, null(), null())
	givesError(t, api.ErrType, api.OpEq, api.Int, api.Text)
	wants(t, null(), api.OpEq, null(), word("a"))
	givesError(t, api.ErrType, api.OpNot, api.Int)
	wants(t, null(), api.OpNot, null())
}

func TestDoIsLikeTheModel(t *testing.T) {
	values := append(edgeValues(), noValues()...)
	for x := range 256 {
		op := api.Op(x)
		for n := range 3 {
			for _, l := range lists(n, values) {
				want, wantE := model(op, l)
				if got, e := Do(op, l...); got != want || e != wantE {
					t.Fatalf("Do of %d, %v: %v, %v; want %v, %v", op, l, got, e, want, wantE)
				}
			}
		}
	}
}

func FuzzDo(f *testing.F) {
	for _, op := range operations {
		for _, l := range lists(2, list(null(), yes(), num(least), num(-1), num(0), word("é"), word("\xff"))) {
			f.Add(byte(op), byte(Takes(op)), byte(l[0].Kind), l[0].Int, l[0].Text, byte(l[1].Kind), l[1].Int, l[1].Text)
		}
	}
	f.Fuzz(func(t *testing.T, op, n, kindA byte, intA int64, textA string, kindB byte, intB int64, textB string) {
		l := list(api.Value{Kind: api.Kind(kindA), Int: intA, Text: textA}, api.Value{Kind: api.Kind(kindB), Int: intB, Text: textB})
		l = append(l, l...)[:n%5]
		want, wantE := model(api.Op(op), l)
		if got, e := Do(api.Op(op), l...); got != want || e != wantE {
			t.Errorf("Do of %d, %v: %v, %v; want %v, %v", op, l, got, e, want, wantE)
		}
		if wantE != api.ErrArg {
			followsGives(t, api.Op(op), l)
		}
	})
}

func FuzzLiteral(f *testing.F) {
	for _, v := range append(edgeValues(), noValues()...) {
		f.Add(byte(v.Kind), v.Int, v.Text)
	}
	f.Fuzz(func(t *testing.T, kind byte, x int64, text string) {
		v := api.Value{Kind: api.Kind(kind), Int: x, Text: text}
		s, e := Literal(v)
		switch {
		case e == api.OK:
			if !modelMayBe(v) || unliteral(s) != v {
				t.Errorf("Literal of %v: %q", v, s)
			}
		case e != api.ErrArg || s != "" || modelMayBe(v) && (v.Kind != api.Text || string([]rune(text)) == text):
			t.Errorf("Literal of %v: %q, %v", v, s, e)
		}
	})
}
