package value

import (
	"slices"
	"testing"

	"stagepost/api"
)

func givesKind(t *testing.T, want api.Kind, op api.Op, l ...api.Kind) {
	t.Helper()
	if got, e := Gives(op, l...); got != want || e != api.OK {
		t.Errorf("Gives of %d, %v: %v, %v; want %v", op, l, got, e, want)
	}
}

func givesError(t *testing.T, want api.Errno, op api.Op, l ...api.Kind) {
	t.Helper()
	if got, e := Gives(op, l...); got != 0 || e != want {
		t.Errorf("Gives of %d, %v: %v, %v; want %v", op, l, got, e, want)
	}
}

// answered is the kind that the chapter says an operation answers.
func answered(op api.Op) api.Kind {
	switch {
	case slices.Contains(numeric, op) || op == api.OpNeg:
		return api.Int
	case op == api.OpJoin:
		return api.Text
	}
	return api.Bool
}

func TestGivesOfTwoKinds(t *testing.T) {
	for op, rows := range kindsThatGo() {
		for i, row := range rows {
			for j := range row {
				a, b := kinds()[i], kinds()[j]
				if row[j] == '.' {
					givesError(t, api.ErrType, op, a, b)
				} else {
					givesKind(t, answered(op), op, a, b)
				}
			}
		}
	}
}

func TestGivesOfOneKind(t *testing.T) {
	for _, k := range kinds() {
		givesKind(t, api.Bool, api.OpIsNull, k)
		givesKind(t, api.Bool, api.OpNotNull, k)
	}
	givesKind(t, api.Bool, api.OpNot, api.Bool)
	givesKind(t, api.Int, api.OpNeg, api.Int)
	givesError(t, api.ErrType, api.OpNot, api.Int)
	givesError(t, api.ErrType, api.OpNot, api.Text)
	givesError(t, api.ErrType, api.OpNeg, api.Bool)
	givesError(t, api.ErrType, api.OpNeg, api.Text)
}

func TestGivesOfNullsAlone(t *testing.T) {
	for _, op := range operations {
		givesKind(t, answered(op), op, make([]api.Kind, Takes(op))...)
	}
}

func TestGivesOfTooFewAndTooMany(t *testing.T) {
	for _, op := range operations {
		for n := range 5 {
			if n == Takes(op) {
				continue
			}
			for _, k := range kinds() {
				givesError(t, api.ErrArg, op, slices.Repeat([]api.Kind{k}, n)...)
			}
		}
	}
}

func TestGivesOfWhatIsNoOperation(t *testing.T) {
	for _, op := range others() {
		for n := range 4 {
			for _, k := range kinds() {
				givesError(t, api.ErrArg, op, slices.Repeat([]api.Kind{k}, n)...)
			}
		}
	}
}

// TestGivesOfWhatIsNoKind: ahead of ErrType too, at each place.
func TestGivesOfWhatIsNoKind(t *testing.T) {
	for _, bad := range noKinds() {
		for _, op := range ofOneValue {
			givesError(t, api.ErrArg, op, bad)
		}
		for _, op := range ofTwoValues {
			givesError(t, api.ErrArg, op, bad, bad)
			for _, k := range kinds() {
				givesError(t, api.ErrArg, op, bad, k)
				givesError(t, api.ErrArg, op, k, bad)
			}
		}
	}
}
