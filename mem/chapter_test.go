package mem

import (
	"testing"

	"stagepost/api"
)

// TestExamplesOfTheChapter goes through them one behind the other.
func TestExamplesOfTheChapter(t *testing.T) {
	m := fresh(t, 2, 1, 3)
	adds(t, m, put("b", 1), put("a", 2), put("b", 3))
	has(t, m, put("a", 2), put("b", 3), put("b", 1))
	lane(t, m, 1, 0, 1, 2)
	lane(t, m, 2, 1, 2)
	lane(t, m, 3, 1)
	lane(t, m, 4)
	gets(t, m, "b", 2, put("b", 1))
	gets(t, m, "b", 3, put("b", 3))
	misses(t, m, "b", 0)
	costs(t, m, "b", 3, 4)
	costs(t, m, "a", 2, 3)
	answers(t, "Add of (b, 3) again", m.Add(put("b", 3)), api.ErrThere)
	answers(t, "Add of an empty key", m.Add(put("", 4)), api.ErrArg)
	if m, e := New([]int{13}); m != nil || e != api.ErrArg {
		t.Errorf("New of 13: %v, %v", m, e)
	}
}
