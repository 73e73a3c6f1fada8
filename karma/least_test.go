package karma_test

import (
	"math/rand"
	"slices"
	"testing"

	"gradine/api"
	"gradine/karma"
)

// cost is what these parts cost, by the bottom that all parts of l have.
func cost(t *testing.T, l []api.Hint, x []karma.Part, costs [4]int) int {
	t.Helper()
	top, _, e := karma.Cost(l, x, costs)
	if e != api.OK {
		t.Fatalf("Cost(%v, %v, %v): %d", l, x, costs, int(e))
	}
	return top
}

// splits are all the parts of so many blocks, in tiers that have this room.
func splits(size int, room [3]int) []karma.Part {
	var l []karma.Part
	for a := 0; a <= min(size, room[0]); a++ {
		for b := 0; b <= min(size-a, room[1]); b++ {
			for c := 0; c <= min(size-a-b, room[2]); c++ {
				l = append(l, karma.Part{Tiers: [4]int{a, b, c, size - a - b - c}})
			}
		}
	}
	return l
}

// allParts are all that l's ranges may have, in tiers that have this room.
func allParts(l []api.Hint, room [3]int) [][]karma.Part {
	if len(l) == 0 {
		return [][]karma.Part{nil}
	}
	var all [][]karma.Part
	for _, first := range splits(l[0].Size, room) {
		left := [3]int{room[0] - first.Tiers[0], room[1] - first.Tiers[1], room[2] - first.Tiers[2]}
		for _, rest := range allParts(l[1:], left) {
			all = append(all, append([]karma.Part{first}, rest...))
		}
	}
	return all
}

// rising are costs that don't fall.
func rising() [][4]int {
	return [][4]int{{0, 0, 0, 0}, {0, 0, 0, 1}, {0, 0, 1, 1}, {0, 1, 1, 1}, {1, 1, 1, 1}, {0, 1, 2, 3}, {1, 2, 5, 10}, {0, 0, 7, 9}, {0, 1, 999, 1000}, {3, 3, 4, 4}, {1, 500, 500, 501}}
}

// checkLeast tells where other parts cost less than the plan's, whose own are among them.
func checkLeast(t *testing.T, l []api.Hint, caps [3]int) {
	t.Helper()
	all := allParts(l, caps)
	plan := planOf(t, maxBlocks, caps, l).Parts()
	if !slices.ContainsFunc(all, func(x []karma.Part) bool { return slices.Equal(x, plan) }) {
		t.Fatalf("%v, tiers of %v: %v may not be", l, caps, plan)
	}
	for _, costs := range rising() {
		least := cost(t, l, plan, costs)
		for _, x := range all {
			if n := cost(t, l, x, costs); n < least {
				t.Fatalf("%v, tiers of %v, costs %v: %v cost %d, but %v %d", l, caps, costs, plan, least, x, n)
			}
		}
	}
}

// ranges are one behind the other, of these sizes, used so often.
func ranges(sizes, often []int) []api.Hint {
	var l []api.Hint
	from := 0
	for i, size := range sizes {
		l = append(l, api.Hint{From: from, Size: size, Often: often[i]})
		from += size
	}
	return l
}

// TestNoneCostsLess holds a plan's parts against all others, of few hints.
func TestNoneCostsLess(t *testing.T) {
	for i := range 27 {
		sizes := []int{1 + i%3, 1 + i/3%3, 1 + i/9}
		for j := range 27 {
			often := []int{j % 3, j / 3 % 3, j / 9}
			for _, caps := range [][3]int{{1, 1, 1}, {2, 1, 1}, {1, 2, 1}, {2, 2, 3}} {
				checkLeast(t, ranges(sizes, often), caps)
			}
		}
	}
}

// TestNoneOfManyCostsLess holds them against others, of hints of all sizes.
func TestNoneOfManyCostsLess(t *testing.T) {
	for seed := range int64(400) {
		r := rand.New(rand.NewSource(seed))
		l, caps := anyHints(r, maxBlocks, []int{3, 30, 100000}[r.Intn(3)]), anyCaps(r)
		plan := planOf(t, maxBlocks, caps, l).Parts()
		for range 50 {
			x, costs := anyParts(r, l, caps), anyCosts(r)
			slices.Sort(costs[:])
			if a, b := cost(t, l, plan, costs), cost(t, l, x, costs); b < a {
				t.Fatalf("seed %d, %v, tiers of %v, costs %v: %v cost %d, but %v %d", seed, l, caps, costs, plan, a, x, b)
			}
		}
	}
}

// anyParts are some that l's ranges may have: block by block in the first tier with room, or in any one, in some order of the ranges.
func anyParts(r *rand.Rand, l []api.Hint, caps [3]int) []karma.Part {
	room := [4]int{caps[0], caps[1], caps[2], maxBlocks}
	x := make([]karma.Part, len(l))
	order := r.Perm(len(l))
	if r.Intn(2) == 0 { // nearly the plan's
		slices.SortStableFunc(order, func(a, b int) int { return density(l[b]).Cmp(density(l[a])) })
		if n := len(l); n > 1 {
			i := r.Intn(n - 1)
			order[i], order[i+1] = order[i+1], order[i]
		}
	}
	for _, i := range order {
		for left := l[i].Size; left > 0; {
			at := r.Intn(4)
			if r.Intn(3) > 0 {
				at = slices.IndexFunc(room[:], func(n int) bool { return n > 0 })
			}
			if room[at] > 0 {
				x[i].Tiers[at]++
				room[at]--
				left--
			}
		}
	}
	return x
}
