package karma_test

import (
	"math"
	"slices"
	"testing"

	"gradine/api"
	"gradine/karma"
)

// checkCost tells where Cost answers another fraction than this one.
func checkCost(t *testing.T, l []api.Hint, x []karma.Part, costs [4]int, top, bottom int) {
	t.Helper()
	if a, b, e := karma.Cost(l, x, costs); a != top || b != bottom || e != api.OK {
		t.Errorf("Cost(%v, %v, %v): %d/%d %d, not %d/%d", l, x, costs, a, b, int(e), top, bottom)
	}
}

// checkNoCost tells where Cost answers another error, or anything beside it.
func checkNoCost(t *testing.T, l []api.Hint, x []karma.Part, costs [4]int, want api.Errno) {
	t.Helper()
	if a, b, e := karma.Cost(l, x, costs); a != 0 || b != 0 || e != want {
		t.Errorf("Cost(%v, %v, %v): %d/%d %d, not %d", l, x, costs, a, b, int(e), int(want))
	}
}

func TestCost(t *testing.T) {
	for _, c := range []struct {
		l, x        string
		costs       [4]int
		top, bottom int
	}{
		{"", "", [4]int{1, 2, 3, 4}, 0, 1},
		// each place has a cost of its own, that of none included
		{"0+1:1", "1/0/0/0", [4]int{2, 3, 5, 7}, 2, 1},
		{"0+1:1", "0/1/0/0", [4]int{2, 3, 5, 7}, 3, 1},
		{"0+1:1", "0/0/1/0", [4]int{2, 3, 5, 7}, 5, 1},
		{"0+1:1", "0/0/0/1", [4]int{2, 3, 5, 7}, 7, 1},
		{"0+4:4", "1/1/1/1", [4]int{2, 3, 5, 7}, 68, 4},
		{"0+9:1", "4/3/2/1", [4]int{1, 10, 100, 1000}, 1234, 9},
		// by density: Often times as much, Size times less
		{"0+1:7", "1/0/0/0", [4]int{2, 3, 5, 7}, 14, 1},
		{"0+3:7", "1/0/0/0", [4]int{2, 3, 5, 7}, 14, 3},
		{"0+3:7", "3/0/0/0", [4]int{2, 3, 5, 7}, 42, 3},
		// it isn't told more shortly
		{"0+4:2", "4/0/0/0", [4]int{1, 1, 1, 1}, 8, 4},
		{"0+4:0", "4/0/0/0", [4]int{1, 1, 1, 1}, 0, 4},
		{"0+4:2", "0/0/0/0", [4]int{1, 1, 1, 1}, 0, 4},
		{"0+4:2", "1/1/1/1", [4]int{0, 0, 0, 0}, 0, 4},
		// the bottom is the least common multiple, of those that cost nothing too
		{"0+4:1 4+6:1", "4/0/0/0 6/0/0/0", [4]int{1, 0, 0, 0}, 24, 12},
		{"0+6:1 6+4:1", "6/0/0/0 4/0/0/0", [4]int{1, 0, 0, 0}, 24, 12},
		{"0+4:0 4+6:1", "4/0/0/0 6/0/0/0", [4]int{1, 0, 0, 0}, 12, 12},
		{"0+5:1 5+5:1", "1/0/0/0 1/0/0/0", [4]int{1, 0, 0, 0}, 2, 5},
		{"0+2:1 2+4:1 6+8:1", "1/0/0/0 1/0/0/0 1/0/0/0", [4]int{1, 0, 0, 0}, 7, 8},
		{"0+8:1 8+4:1 12+2:1", "1/0/0/0 1/0/0/0 1/0/0/0", [4]int{1, 0, 0, 0}, 7, 8},
		{"0+3:1 3+5:1 8+7:1", "1/0/0/0 1/0/0/0 1/0/0/0", [4]int{1, 0, 0, 0}, 71, 105},
		{"0+6:1 6+10:1 16+15:1", "1/0/0/0 1/0/0/0 1/0/0/0", [4]int{1, 0, 0, 0}, 10, 30},
		{"0+1:1 1+1:1 2+1:1 3+1:1 4+1:1 5+1:1 6+1:1 7+1:1", "1/0/0/0 0/1/0/0 0/0/1/0 0/0/0/1 1/0/0/0 0/1/0/0 0/0/1/0 0/0/0/1", [4]int{1, 10, 100, 1000}, 2222, 1},
		{"0+32:1", "32/32/32/32", [4]int{1, 1, 1, 1}, 128, 32},
		{"0+31:1 31+1:1", "1/0/0/0 1/0/0/0", [4]int{1, 0, 0, 0}, 32, 31},
		{"0+3:1 3+4:1 7+5:1 12+7:1 19+13:1", "1/0/0/0 1/0/0/0 1/0/0/0 1/0/0/0 1/0/0/0", [4]int{1, 0, 0, 0}, 1820 + 1365 + 1092 + 780 + 420, 5460},
		// neither where a range begins nor Loop is asked
		{"9+4:3o 20+6:5o", "1/0/0/0 0/1/0/0", [4]int{1, 2, 0, 0}, 29, 12},
		// parts of other numbers than the sizes, and beyond any capacity
		{"0+1:1", "32/0/0/0", [4]int{1, 2, 3, 4}, 32, 1},
		{"0+1:1", "9/8/7/6", [4]int{1, 2, 3, 4}, 70, 1},
		{"0+1:1 1+1:1", "17/0/0/0 17/0/0/0", [4]int{1, 2, 3, 4}, 34, 1},
		// costs may fall
		{"0+1:1", "9/8/7/6", [4]int{1000, 100, 10, 1}, 9876, 1},
	} {
		checkCost(t, hints(t, c.l), parts(t, c.x), c.costs, c.top, c.bottom)
	}
}

// TestCostOfMost: the greatest numbers that may be are told as they are.
func TestCostOfMost(t *testing.T) {
	for _, c := range []struct {
		l           string
		top, bottom int
	}{
		{"0+1:100000", 12_800_000_000, 1},
		{"0+32:100000", 12_800_000_000, 32},
		{"0+3:100000 3+4:100000 7+5:100000 12+7:100000 19+13:100000", 12_800_000_000 * (1820 + 1365 + 1092 + 780 + 420), 5460},
		{"0+1:100000 1+1:100000 2+1:100000 3+4:100000 7+3:100000 10+5:100000 15+7:100000 22+9:100000", 12_800_000_000 * (3*1260 + 315 + 420 + 252 + 180 + 140), 1260},
	} {
		l := hints(t, c.l)
		x := slices.Repeat([]karma.Part{{Tiers: [4]int{32, 32, 32, 32}}}, len(l))
		checkCost(t, l, x, [4]int{1000, 1000, 1000, 1000}, c.top, c.bottom)
	}
}

// TestCostOfPlans: what a plan of whole ranges costs, tier by tier.
func TestCostOfPlans(t *testing.T) {
	const l = "0+4:8 4+2:10o 8+3:6"
	p := newPlan(t, 12, [3]int{3, 2, 2}, l)
	checkCost(t, hints(t, l), p.Parts(), [4]int{1, 2, 5, 10}, 12*(2*(1+4+5)+5*2+2*(5+20)), 12)
	p = newPlan(t, 12, [3]int{16, 1, 1}, l)
	checkCost(t, hints(t, l), p.Parts(), [4]int{1, 2, 5, 10}, 12*(8+10+6), 12)
	p = newPlan(t, 12, [3]int{1, 1, 1}, "")
	checkCost(t, nil, p.Parts(), [4]int{1, 2, 5, 10}, 0, 1)
	checkCost(t, []api.Hint{}, []karma.Part{}, [4]int{1000, 0, 0, 1000}, 0, 1)
}

// TestCostOfWrongHints: those that aren't right for 32 blocks, with whatever else is wrong; of 32 blocks they may be.
func TestCostOfWrongHints(t *testing.T) {
	for _, l := range wrongHints(maxBlocks) {
		checkNoCost(t, l, make([]karma.Part, len(l)), [4]int{}, api.ErrHint)
		checkNoCost(t, l, make([]karma.Part, len(l)+1), [4]int{}, api.ErrHint)
		checkNoCost(t, l, slices.Repeat([]karma.Part{strangePart}, len(l)), [4]int{-1, 1001, 0, 0}, api.ErrHint)
		l = append([]api.Hint{{From: 9, Size: 1, Often: 100001}}, l...)
		checkNoCost(t, l, make([]karma.Part, len(l)), [4]int{}, api.ErrHint)
	}
	checkCost(t, []api.Hint{{From: 31, Size: 1, Often: 3}}, parts(t, "1/0/0/0"), [4]int{1, 1, 1, 1}, 3, 1)
}

// TestCostOfWrongParts: another number of parts than of hints, and a number of a part, or a cost, beyond its bounds, at each place.
func TestCostOfWrongParts(t *testing.T) {
	for _, often := range []int{1, 100001, math.MaxInt32} {
		eight := make([]api.Hint, 8)
		for i := range eight {
			eight[i] = api.Hint{From: i, Size: 1, Often: often}
		}
		for n := range 9 {
			for m := range 12 {
				if n != m {
					checkNoCost(t, eight[:n], make([]karma.Part, m), [4]int{}, api.ErrArg)
				}
			}
			for at := range n {
				for place := range 4 {
					for _, wrong := range beyond(0, maxBlocks) {
						x := make([]karma.Part, n)
						x[at].Tiers[place] = wrong
						checkNoCost(t, eight[:n], x, [4]int{}, api.ErrArg)
					}
				}
			}
			for place := range 4 {
				for _, wrong := range beyond(0, 1000) {
					costs := [4]int{0, 1, 999, 1000}
					costs[place] = wrong
					checkNoCost(t, eight[:n], make([]karma.Part, n), costs, api.ErrArg)
				}
			}
		}
	}
}

// TestCostsBounds: each number of a part and each cost within the bounds may be, at each place.
func TestCostsBounds(t *testing.T) {
	l := []api.Hint{{Size: 1, Often: 1}}
	for place := range 4 {
		for n := range maxBlocks + 1 {
			var x karma.Part
			x.Tiers[place] = n
			checkCost(t, l, []karma.Part{x}, [4]int{7, 7, 7, 7}, 7*n, 1)
		}
		for n := range 1001 {
			var costs [4]int
			costs[place] = n
			checkCost(t, l, parts(t, "1/1/1/1"), costs, n, 1)
		}
	}
}

// TestCostOfTooOften: Often beyond what a cost is told of, at each place, whatever the part is.
func TestCostOfTooOften(t *testing.T) {
	for n := 1; n <= 8; n++ {
		for at := range n {
			l := make([]api.Hint, n)
			for i := range l {
				l[i] = api.Hint{From: i, Size: 1, Often: 100000}
			}
			checkCost(t, l, make([]karma.Part, n), [4]int{}, 0, 1)
			checkCost(t, l, slices.Repeat(parts(t, "1/0/0/0"), n), [4]int{1, 0, 0, 0}, n*100000, 1)
			for _, often := range []int{100001, 100002, 1 << 20, math.MaxInt32 - 1, math.MaxInt32} {
				l[at].Often = often
				checkNoCost(t, l, make([]karma.Part, n), [4]int{}, api.ErrFull)
				checkNoCost(t, l, slices.Repeat(parts(t, "1/0/0/0"), n), [4]int{1, 0, 0, 1000}, api.ErrFull)
			}
		}
	}
}
