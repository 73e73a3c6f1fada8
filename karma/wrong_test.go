package karma_test

import (
	"math"
	"testing"

	"gradine/api"
	"gradine/karma"
)

// wrongHints are lists that aren't right for so many blocks, 10 at least, and for 32.
func wrongHints(blocks int) [][]api.Hint {
	nine := make([]api.Hint, 9)
	for i := range nine {
		nine[i] = api.Hint{From: i, Size: 1, Often: 1}
	}
	fine := api.Hint{From: 1, Size: 1, Often: 1}
	return [][]api.Hint{
		{{}},
		{{From: 0, Size: blocks + 1}},
		{{From: blocks, Size: 1}},
		{{From: blocks - 1, Size: 2}},
		{{From: -1, Size: 2}},
		{{From: 2, Size: -1}},
		{{From: 2, Size: 0}},
		{{From: 2, Size: 1, Often: -1}},
		{{From: 2, Size: 1, Often: 1 << 31}},
		{{From: 2, Size: 1, Often: math.MaxInt}},
		{{From: 2, Size: 1, Often: math.MinInt}},
		{{From: math.MaxInt, Size: 1}},
		{{From: math.MaxInt, Size: math.MaxInt}},
		{{From: math.MinInt, Size: 1}},
		{{From: 1, Size: math.MaxInt}},
		{fine, fine},
		{fine, {From: 0, Size: 2}},
		{fine, {}},
		{{}, fine},
		{fine, {From: 2, Size: 1}, {From: blocks, Size: 1}},
		nine,
	}
}

// checkNoPlan tells where New answers another error, or anything beside it.
func checkNoPlan(t *testing.T, l []api.Hint, blocks int, caps [3]int, want api.Errno) {
	t.Helper()
	if p, e := karma.New(l, blocks, caps); p != nil || e != want {
		t.Errorf("New(%v, %d, %v): %v %d, not %d", l, blocks, caps, p, int(e), int(want))
	}
}

// TestNewOfNoSuchBlocks: a number of blocks, or a capacity, beyond its bounds, at each place; with hints that are wrong as well.
func TestNewOfNoSuchBlocks(t *testing.T) {
	lists := append(wrongHints(10), nil, []api.Hint{{Size: 1}}, []api.Hint{{Size: 32}})
	for _, l := range lists {
		for _, n := range beyond(1, maxBlocks) {
			checkNoPlan(t, l, n, [3]int{1, 16, 5}, api.ErrArg)
			checkNoPlan(t, l, n, [3]int{0, 17, n}, api.ErrArg)
		}
		for _, c := range beyond(1, maxCapacity) {
			for _, other := range []int{1, 5, 16, c} {
				for _, caps := range [][3]int{{c, other, other}, {other, c, other}, {other, other, c}} {
					checkNoPlan(t, l, 10, caps, api.ErrArg)
				}
			}
		}
	}
}

// TestNewOfWrongHints: those that aren't right for so many blocks, for fewer than there may be as well.
func TestNewOfWrongHints(t *testing.T) {
	for _, blocks := range []int{10, 31, 32} {
		for _, l := range wrongHints(blocks) {
			checkNoPlan(t, l, blocks, [3]int{1, 16, 5}, api.ErrHint)
		}
	}
	for blocks := 1; blocks <= maxBlocks; blocks++ {
		checkNoPlan(t, []api.Hint{{Size: blocks + 1}}, blocks, [3]int{1, 1, 1}, api.ErrHint)
		checkNoPlan(t, []api.Hint{{From: blocks, Size: 1}}, blocks, [3]int{1, 1, 1}, api.ErrHint)
	}
}

// TestNil: of no plan nothing is told, and nothing done.
func TestNil(t *testing.T) {
	var p *karma.Plan
	checkPlan(t, p, nil, nil)
	lists := append(wrongHints(10), nil, []api.Hint{}, []api.Hint{{Size: 1}})
	for _, l := range lists {
		if e := p.Set(l); e != api.ErrNil {
			t.Errorf("Set(%v): %d", l, int(e))
		}
	}
	checkPlan(t, p, nil, nil)
}
