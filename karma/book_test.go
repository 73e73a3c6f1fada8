package karma_test

import (
	"math/big"
	"math/rand"
	"slices"
	"testing"

	"gradine/api"
	"gradine/karma"
)

// density is the chapter's, of any length.
func density(h api.Hint) *big.Rat {
	return big.NewRat(int64(h.Often), int64(h.Size))
}

// byTheBook are the parts by the chapter's words, block by block, the densest ones first.
func byTheBook(l []api.Hint, caps [3]int) []karma.Part {
	x := make([]karma.Part, len(l))
	var blocks []int // of each the place of its hint
	for i, h := range l {
		blocks = append(blocks, slices.Repeat([]int{i}, h.Size)...)
	}
	slices.SortStableFunc(blocks, func(a, b int) int { return density(l[b]).Cmp(density(l[a])) })
	tier, held := 0, 0
	for _, i := range blocks {
		for tier < none && held == caps[tier] {
			tier, held = tier+1, 0
		}
		x[i].Tiers[tier]++
		held++
	}
	return x
}

// costByTheBook is the chapter's sum, range by range and tier by tier.
func costByTheBook(l []api.Hint, x []karma.Part, costs [4]int) *big.Rat {
	sum := new(big.Rat)
	for i, h := range l {
		for at, n := range x[i].Tiers {
			one := new(big.Rat).Mul(density(h), big.NewRat(int64(n), 1))
			sum.Add(sum, one.Mul(one, big.NewRat(int64(costs[at]), 1)))
		}
	}
	return sum
}

// leastMultiple is the least number that each size divides.
func leastMultiple(l []api.Hint) int {
	for n := 1; ; n++ {
		if !slices.ContainsFunc(l, func(h api.Hint) bool { return n%h.Size != 0 }) {
			return n
		}
	}
}

// anyHints are up to 8 that are right for so many blocks, in any order, with blocks between that are in none.
func anyHints(r *rand.Rand, blocks, often int) []api.Hint {
	var l []api.Hint
	most := 1 + r.Intn(blocks)
	for from := r.Intn(3); from < blocks && len(l) < 8; {
		h := api.Hint{From: from, Size: min(1+r.Intn(most), blocks-from), Often: r.Intn(often + 1), Loop: r.Intn(2) == 0}
		l = append(l, h)
		from += h.Size + max(0, r.Intn(4)-1)
	}
	r.Shuffle(len(l), func(i, j int) { l[i], l[j] = l[j], l[i] })
	return l
}

func anyCaps(r *rand.Rand) [3]int {
	most := 1 + r.Intn(maxCapacity)
	return [3]int{1 + r.Intn(most), 1 + r.Intn(most), 1 + r.Intn(most)}
}

func anyCosts(r *rand.Rand) [4]int {
	most := []int{1, 3, 10, 1000}[r.Intn(4)]
	return [4]int{r.Intn(most + 1), r.Intn(most + 1), r.Intn(most + 1), r.Intn(most + 1)}
}

// checkWords tells where the parts aren't as the chapter says that all are: of each range its blocks, in each tier no more than its capacity.
func checkWords(t *testing.T, l []api.Hint, x []karma.Part, caps [3]int) {
	t.Helper()
	var held [4]int
	for i, h := range l {
		sum := 0
		for at, n := range x[i].Tiers {
			sum += n
			held[at] += n
		}
		if sum != h.Size {
			t.Errorf("%v is of %d blocks, not %d", x[i], sum, h.Size)
		}
	}
	for i, c := range caps {
		if held[i] > c || held[i] < c && held[i+1] > 0 {
			t.Errorf("%v in tiers of %v", held, caps)
		}
	}
}

// TestByTheBook: whatever is set, in any order, right or wrong, the plan is that of the chapter's words.
func TestByTheBook(t *testing.T) {
	for seed := range int64(300) {
		r := rand.New(rand.NewSource(seed))
		blocks, caps := 1+r.Intn(maxBlocks), anyCaps(r)
		often := []int{0, 1, 3, 10, 100, 1<<31 - 1}[r.Intn(6)]
		l := anyHints(r, blocks, often)
		p := planOf(t, blocks, caps, l)
		for range 20 {
			x := byTheBook(l, caps)
			checkPlan(t, p, l, x)
			if checkWords(t, l, x, caps); t.Failed() {
				t.Fatalf("seed %d, %d blocks, %v: %v", seed, blocks, caps, l)
			}
			more := anyHints(r, min(blocks+r.Intn(2), maxBlocks), often)
			right := !slices.ContainsFunc(more, func(h api.Hint) bool { return h.From+h.Size > blocks })
			switch e := p.Set(more); {
			case right && e == api.OK:
				l = more
			case right || e != api.ErrHint:
				t.Fatalf("seed %d, %d blocks, Set(%v): %d", seed, blocks, more, int(e))
			}
		}
	}
}

// TestCostByTheBook: of any parts, of the sizes and of others.
func TestCostByTheBook(t *testing.T) {
	for seed := range int64(3000) {
		r := rand.New(rand.NewSource(seed))
		l := anyHints(r, maxBlocks, []int{1, 10, 100000}[r.Intn(3)])
		x, costs := byTheBook(l, anyCaps(r)), anyCosts(r)
		if r.Intn(2) == 0 {
			for i := range x {
				x[i].Tiers = [4]int{r.Intn(33), r.Intn(33), r.Intn(33), r.Intn(33)}
			}
		}
		top, bottom, e := karma.Cost(l, x, costs)
		if e != api.OK || bottom != leastMultiple(l) || big.NewRat(int64(top), int64(max(bottom, 1))).Cmp(costByTheBook(l, x, costs)) != 0 {
			t.Fatalf("seed %d, Cost(%v, %v, %v): %d/%d %d", seed, l, x, costs, top, bottom, int(e))
		}
	}
}

// TestTheSameEachTime: what has been through the same answers the same, whatever is done to others between.
func TestTheSameEachTime(t *testing.T) {
	r := rand.New(rand.NewSource(7))
	a, b, other := newPlan(t, 20, [3]int{2, 3, 4}, ""), newPlan(t, 20, [3]int{2, 3, 4}, ""), newPlan(t, 20, [3]int{2, 3, 4}, "")
	for range 100 {
		l := anyHints(r, 20, 9)
		one := a.Set(l)
		other.Set(anyHints(r, 20, 9))
		if two := b.Set(l); one != api.OK || two != api.OK {
			t.Fatal(int(one), int(two))
		}
		checkPlan(t, a, l, byTheBook(l, [3]int{2, 3, 4}))
		if checkPlan(t, b, l, byTheBook(l, [3]int{2, 3, 4})); t.Failed() {
			t.Fatal(l)
		}
	}
}
