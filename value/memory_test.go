package value

import (
	"slices"
	"testing"

	"stagepost/api"
)

// These are the tests of rule 4, for lists that are handed in whole, and of P7: an answer hangs on the arguments alone.

func TestDoLeavesWhatItIsHanded(t *testing.T) {
	bad := api.Value{Kind: 9, Int: 9, Text: "no value"}
	for _, op := range operations {
		for _, l := range lists(Takes(op), list(null(), no(), yes(), num(-1), num(least), word(""), word("a"), word("it's"))) {
			all := append(slices.Clone(l), slices.Repeat(list(bad), 8)...)
			was := slices.Clone(all)
			want, wantE := Do(op, slices.Clip(l)...)
			got, e := Do(op, all[:len(l)]...)
			if got != want || e != wantE {
				t.Errorf("Do of %d, %v hangs on the spare room: %v, %v", op, l, got, e)
			}
			if !slices.Equal(all, was) {
				t.Errorf("Do of %d, %v changed it: %v", op, l, all)
			}
			for i := range all {
				all[i] = bad
			}
			if got != want {
				t.Errorf("Do of %d, %v: its answer was changed from outside: %v", op, l, got)
			}
		}
	}
}

func TestGivesLeavesWhatItIsHanded(t *testing.T) {
	for _, op := range operations {
		for _, k := range kinds() {
			all := []api.Kind{k, api.Null, 77, 77}
			was := slices.Clone(all)
			n := Takes(op)
			want, wantE := Gives(op, was[:n:n]...)
			if got, e := Gives(op, all[:n]...); got != want || e != wantE {
				t.Errorf("Gives of %d, %v hangs on the spare room: %v, %v", op, all[:n], got, e)
			}
			if !slices.Equal(all, was) {
				t.Errorf("Gives of %d, %v changed it: %v", op, was, all)
			}
		}
	}
}

// TestAnswersHangOnArgumentsAlone asks again, behind other calls and refusals, in another order.
func TestAnswersHangOnArgumentsAlone(t *testing.T) {
	type answer struct {
		v api.Value
		e api.Errno
	}
	all := lists(2, list(null(), no(), yes(), num(least), num(-1), num(0), word("a"), api.Value{Kind: 4}))
	ask := func(op api.Op, l []api.Value) answer {
		v, e := Do(op, l[:Takes(op)]...)
		return answer{v, e}
	}
	var first []answer
	for _, op := range operations {
		for _, l := range all {
			first = append(first, ask(op, l))
		}
	}
	for i := len(operations) - 1; i >= 0; i-- {
		for j := len(all) - 1; j >= 0; j-- {
			if got := ask(operations[i], all[j]); got != first[i*len(all)+j] {
				t.Errorf("Do of %d, %v: first %v, then %v", operations[i], all[j], first[i*len(all)+j], got)
			}
		}
	}
}
