package value

import (
	"math"
	"testing"

	"stagepost/api"
)

func TestTakes(t *testing.T) {
	for _, op := range ofTwoValues {
		if n := Takes(op); n != 2 {
			t.Errorf("Takes of %d: %d", op, n)
		}
	}
	for _, op := range ofOneValue {
		if n := Takes(op); n != 1 {
			t.Errorf("Takes of %d: %d", op, n)
		}
	}
	for _, op := range others() {
		if n := Takes(op); n != 0 {
			t.Errorf("Takes of %d: %d", op, n)
		}
	}
}

// TestEachOperationIsListed sees to it that the tests' lists leave no number out.
func TestEachOperationIsListed(t *testing.T) {
	seen := map[api.Op]int{}
	for _, op := range append(others(), operations...) {
		seen[op]++
	}
	for x := range math.MaxUint8 + 1 {
		if seen[api.Op(x)] != 1 {
			t.Errorf("%d is listed %d times", x, seen[api.Op(x)])
		}
	}
}
