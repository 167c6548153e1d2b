package manifest

import (
	"testing"

	"stagepost/api"
)

// TestExamplesOfTheChapter goes through them one behind the other.
func TestExamplesOfTheChapter(t *testing.T) {
	f := newFS(t, 10000)
	m := opened(t, f)
	is(t, m, version(1, 0, 1), 1)
	names(t, f, "current", "manifest-000001")

	table := meta(1, 0, 3, "a", "c")
	answers(t, "Add", m.Add(edit(nil, metas(table), 2, 5, 2)), api.OK)

	m = opened(t, f)
	is(t, m, version(2, 5, 2, table), 2)
	names(t, f, "current", "manifest-000002")

	answers(t, "Add of Drops 2", m.Add(edit(numbers(2), nil, 2, 5, 2)), api.ErrArg)
	answers(t, "Add of an Add with Number 2 and Next 2", m.Add(edit(nil, metas(meta(2, 0, 3, "a", "c")), 2, 5, 2)), api.ErrArg)
	answers(t, "Add of Log 1", m.Add(edit(nil, nil, 1, 5, 2)), api.ErrArg)
	is(t, m, version(2, 5, 2, table), 2)

	both := version(1, 0, 3, meta(1, 1, 1, "a", "c"), meta(2, 1, 1, "c", "d"))
	answers(t, "Check of two tables that have c", Check(both), api.ErrArg)
}
