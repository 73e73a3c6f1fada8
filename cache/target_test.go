package cache_test

import (
	"math/rand"
	"slices"
	"testing"

	"gradine/api"
	"gradine/cache"
)

const out = 4 // the target of a block that no tier is to have

func checkTarget(t *testing.T, c api.Config, block, above, want int) {
	t.Helper()
	if got := cache.Target(c, block, above); got != want {
		t.Errorf("Target(%v, %d, %d): %d, not %d", c, block, above, got, want)
	}
}

// TestTargetNext: without PKarma it is the next tier, whatever the mode, the policies and the block are.
func TestTargetNext(t *testing.T) {
	for _, c := range []api.Config{plain(2), queued(2, 2, 9, 2), leveled(2)} {
		for _, mode := range []int{api.MInclusive, api.MExclusive, api.MNine} {
			for _, blocks := range []int{1, 20, 32} {
				c.Mode, c.Blocks = mode, blocks
				for block := range blocks {
					for above := range tiers {
						checkTarget(t, c, block, above, above+1)
					}
				}
			}
		}
	}
}

// TestTargetOut: of no such tier, or no such block, it is none, whatever is placed where.
func TestTargetOut(t *testing.T) {
	for _, c := range []api.Config{plain(2), leveled(2), parted(t, 16, "0+20:1"), parted(t, 2, "")} {
		for _, blocks := range []int{1, 20, 32} {
			c.Blocks = blocks
			if len(c.Hints) > 0 {
				c.Hints = []api.Hint{{From: 0, Size: blocks, Often: 1}}
			}
			for _, above := range beyond(0, tiers-1) {
				for _, block := range []int{-1, 0, blocks - 1, blocks} {
					checkTarget(t, c, block, above, out)
				}
			}
			for _, block := range beyond(0, blocks-1) {
				for above := -1; above <= tiers; above++ {
					checkTarget(t, c, block, above, out)
				}
			}
		}
	}
}

// TestTargetOfParts: the first tier below in which the range has a part.
func TestTargetOfParts(t *testing.T) {
	for _, x := range []struct {
		hints string
		caps  [3]int
		want  map[int][tiers]int // by the block: from above 0, 1 and 2
	}{
		{"", [3]int{9, 9, 9}, map[int][tiers]int{0: {out, out, out}, 19: {out, out, out}}},
		{"0+3:1", [3]int{1, 1, 1}, map[int][tiers]int{0: {1, 2, 3}, 2: {1, 2, 3}, 3: {out, out, out}}},
		{"0+3:1o", [3]int{2, 1, 9}, map[int][tiers]int{0: {1, 2, out}, 2: {1, 2, out}}},
		{"0+3:0", [3]int{3, 1, 9}, map[int][tiers]int{0: {1, out, out}, 2: {1, out, out}}},
		// the second one has all of tier 1, so that the first one has parts of 2 and 3
		{"0+3:1 10+2:5", [3]int{2, 2, 2}, map[int][tiers]int{0: {2, 2, 3}, 2: {2, 2, 3}, 10: {1, out, out}, 12: {out, out, out}, 9: {out, out, out}}},
		{"0+3:1 10+2:5 5+2:1", [3]int{2, 3, 2}, map[int][tiers]int{0: {2, 2, 3}, 10: {1, out, out}, 5: {2, 2, out}}},
		{"0+3:1 10+2:5 5+2:1", [3]int{2, 2, 2}, map[int][tiers]int{0: {3, 3, 3}, 10: {1, out, out}, 5: {2, 2, out}}},
		{"0+3:1 10+2:5 5+2:1", [3]int{3, 2, 4}, map[int][tiers]int{0: {2, 2, 3}, 10: {1, out, out}, 5: {1, 2, out}}},
		// the last one has none
		{"0+3:3 10+2:5 5+2:1", [3]int{2, 1, 2}, map[int][tiers]int{0: {2, 2, 3}, 10: {1, out, out}, 5: {out, out, out}}},
		// a part of tiers 1 and 3 alone there is not: what is left of tier 2 is filled ahead of tier 3
		{"0+4:4 10+2:9", [3]int{3, 2, 1}, map[int][tiers]int{0: {1, 2, 3}, 10: {1, out, out}}},
	} {
		c := parted(t, 1, x.hints)
		c.Cap = x.caps
		for block, want := range x.want {
			for above := range tiers {
				checkTarget(t, c, block, above, want[above])
			}
		}
	}
}

// partsOf are the hints' parts by the tier, counted block by block, the densest first; those of none are behind tier 3.
func partsOf(c api.Config) [][out + 1]int {
	parts := make([][out + 1]int, len(c.Hints))
	var blocks []int // of each the place of its hint
	for i, h := range c.Hints {
		blocks = append(blocks, slices.Repeat([]int{i}, h.Size)...)
	}
	slices.SortStableFunc(blocks, func(a, b int) int {
		return c.Hints[b].Often*c.Hints[a].Size - c.Hints[a].Often*c.Hints[b].Size
	})
	room := slices.Concat(slices.Repeat([]int{1}, c.Cap[0]), slices.Repeat([]int{2}, c.Cap[1]), slices.Repeat([]int{3}, c.Cap[2]))
	for at, i := range blocks {
		tier := out
		if at < len(room) {
			tier = room[at]
		}
		parts[i][tier]++
	}
	return parts
}

// anyParted is a configuration with hints in any order, and blocks between that are in none.
func anyParted(t *testing.T, r *rand.Rand) api.Config {
	t.Helper()
	c := parted(t, 1, "")
	c.Blocks = 1 + r.Intn(api.MaxBlocks)
	most := 1 + r.Intn(c.Blocks)
	for from := r.Intn(3); from < c.Blocks && len(c.Hints) < 8; {
		h := api.Hint{From: from, Size: min(1+r.Intn(most), c.Blocks-from), Often: r.Intn(20), Loop: r.Intn(2) == 0}
		c.Hints = append(c.Hints, h)
		from += h.Size + max(0, r.Intn(4)-1)
	}
	r.Shuffle(len(c.Hints), func(i, j int) { c.Hints[i], c.Hints[j] = c.Hints[j], c.Hints[i] })
	for i := range c.Cap {
		c.Cap[i] = 1 + r.Intn(1+r.Intn(api.MaxCapacity))
	}
	return c
}

// TestTargetOfAnyParts: of hints of any kind, held against parts that are counted block by block; a tier's cache takes just what may have it as its target.
func TestTargetOfAnyParts(t *testing.T) {
	for seed := range int64(300) {
		r := rand.New(rand.NewSource(seed))
		c := anyParted(t, r)
		parts := partsOf(c)
		for block := -2; block < c.Blocks+2; block++ {
			i := slices.IndexFunc(c.Hints, func(h api.Hint) bool { return block >= h.From && block < h.From+h.Size })
			for above := range tiers {
				want := above + 1
				for want < out && (i < 0 || parts[i][want] == 0) {
					want++
				}
				checkTarget(t, c, block, above, want)
				if is := newCache(t, c, above+1).Takes(block, 0); is != (want == above+1) {
					t.Errorf("%v, tier %d: Takes(%d): %t", c, above+1, block, is)
				}
			}
		}
		if t.Failed() {
			t.Fatal(seed)
		}
	}
}

// TestTargetOfWrong: of a configuration that isn't right there is an answer as well, by the same words; where its hints may not be, no range has a part.
func TestTargetOfWrong(t *testing.T) {
	c := plain(0)
	checkTarget(t, c, 3, 1, 2)
	c.Blocks = 100
	checkTarget(t, c, 99, 2, 3)
	checkTarget(t, c, 100, 2, out)
	c.Place = 7
	checkTarget(t, c, 99, 0, 1)
	checkTarget(t, api.Config{}, 0, 0, out)
	for _, hints := range []string{"0+21:1", "0+2:1 1+2:1", "0+0:1", "-1+4:1"} {
		for above := range tiers {
			checkTarget(t, parted(t, 4, hints), 1, above, out)
		}
	}
	for _, capacity := range beyond(1, api.MaxCapacity) {
		checkTarget(t, parted(t, capacity, "0+20:1"), 1, 0, out)
	}
	c = parted(t, 4, "0+20:1")
	c.Blocks = 33
	checkTarget(t, c, 1, 0, out)
}
