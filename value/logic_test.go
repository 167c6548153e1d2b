package value

import (
	"testing"

	"stagepost/api"
)

func TestAndOr(t *testing.T) {
	for _, c := range []struct{ a, b, and, or api.Value }{
		{no(), no(), no(), no()},
		{no(), null(), no(), null()},
		{no(), yes(), no(), yes()},
		{null(), no(), no(), null()},
		{null(), null(), null(), null()},
		{null(), yes(), null(), yes()},
		{yes(), no(), no(), yes()},
		{yes(), null(), null(), yes()},
		{yes(), yes(), yes(), yes()},
	} {
		wants(t, c.and, api.OpAnd, c.a, c.b)
		wants(t, c.or, api.OpOr, c.a, c.b)
	}
}

func TestNot(t *testing.T) {
	wants(t, yes(), api.OpNot, no())
	wants(t, no(), api.OpNot, yes())
	wants(t, null(), api.OpNot, null())
}

func TestIsNull(t *testing.T) {
	wants(t, yes(), api.OpIsNull, null())
	wants(t, no(), api.OpNotNull, null())
	for _, v := range edgeValues()[1:] {
		wants(t, no(), api.OpIsNull, v)
		wants(t, yes(), api.OpNotNull, v)
	}
}

// TestNullMakesNull of each operation but OpAnd, OpOr, OpIsNull and OpNotNull, whatever the other value would have it refuse.
func TestNullMakesNull(t *testing.T) {
	long := word("1234567890123456789012345678901234567890123456789012345678901234")
	for _, op := range numeric {
		for _, x := range edgeInts() {
			wants(t, null(), op, null(), num(x))
			wants(t, null(), op, num(x), null())
		}
		wants(t, null(), op, null(), null())
	}
	wants(t, null(), api.OpJoin, null(), null())
	wants(t, null(), api.OpJoin, long, null())
	wants(t, null(), api.OpJoin, null(), word(""))
	for _, op := range comparisons {
		for _, v := range edgeValues() {
			wants(t, null(), op, null(), v)
			wants(t, null(), op, v, null())
		}
	}
	wants(t, null(), api.OpNeg, null())
	wants(t, null(), api.OpNot, null())
}

func TestTrue(t *testing.T) {
	for _, v := range edgeValues() {
		if got := True(v); got != (v == yes()) {
			t.Errorf("True of %v: %v", v, got)
		}
	}
	if !True(yes()) || True(no()) || True(null()) || True(num(1)) || True(word("TRUE")) {
		t.Errorf("True of true, of false, of Null, of 1, of a text: %v, %v, %v, %v, %v", True(yes()), True(no()), True(null()), True(num(1)), True(word("TRUE")))
	}
	for _, v := range append(noValues(), api.Value{Kind: 4, Int: 1}, api.Value{Kind: api.Text, Int: 1}, api.Value{Kind: api.Null, Int: 1}) {
		if True(v) {
			t.Errorf("True of %v, which may not be", v)
		}
	}
}
