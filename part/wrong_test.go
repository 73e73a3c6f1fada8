package part_test

import (
	"slices"
	"testing"

	"gradine/api"
	"gradine/karma"
	"gradine/part"
)

// checkNotNew tells where New answers another error, or anything beside it.
func checkNotNew(t *testing.T, p *karma.Plan, tier int, want api.Errno) {
	t.Helper()
	if c, e := part.New(p, tier); c != nil || e != want {
		t.Errorf("New(%v, %d): %v %d, not %d", p, tier, c, int(e), int(want))
	}
}

// TestNewWrong: without a plan there is none, whatever the tier is; nor one of no tier, whatever the plan has.
func TestNewWrong(t *testing.T) {
	for _, tier := range append(beyond(1, tiers), 1, 2, 3) {
		checkNotNew(t, nil, tier, api.ErrNil)
	}
	for _, l := range []string{"", "0+1:1", "0+32:9o", "0+8:1 8+8:3o"} {
		p := planOf(t, hints(t, l), [3]int{2, 3, 4})
		for _, tier := range beyond(1, tiers) {
			checkNotNew(t, p, tier, api.ErrArg)
		}
		for tier := 1; tier <= tiers; tier++ {
			checkAll(t, cacheOf(t, p, tier), "")
		}
	}
}

// TestNotTaken: a block of no range, or of one without a part, changes nothing, be the cache empty, full or neither.
func TestNotTaken(t *testing.T) {
	const l = "0+4:4 4+4:8o 8+3:3 11+2:1o" // of 7 blocks, parts of 3, 4, none and none
	others := append(noBlocks(), 8, 9, 10, 11, 12, 13, 14, 20, 31)
	for _, s := range []string{"", "1", "4", "2 1 0", "7 6 5 4", "3 5", "3 0 2 5 4 7 6"} {
		c := holding(t, l, 7, s)
		for _, b := range others {
			checkNoAdd(t, c, b, api.ErrNone)
			checkUse(t, c, b, false)
			checkRemove(t, c, b, false)
		}
		checkAll(t, c, s)
		checkTakes(t, c, []int{0, 1, 2, 3, 4, 5, 6, 7})
	}
}

// TestNoRanges: a plan without hints has none taken, whichever tier it is.
func TestNoRanges(t *testing.T) {
	p := planOf(t, nil, [3]int{16, 16, 16})
	for tier := 1; tier <= tiers; tier++ {
		c := cacheOf(t, p, tier)
		for _, b := range append(noBlocks(), upTo(maxBlocks)...) {
			checkNoAdd(t, c, b, api.ErrNone)
			checkUse(t, c, b, false)
			checkRemove(t, c, b, false)
		}
		checkAll(t, c, "")
		checkTakes(t, c, nil)
	}
}

// TestPartOfAnotherTier: a range that has its part in other tiers alone isn't taken.
func TestPartOfAnotherTier(t *testing.T) {
	p := planOf(t, hints(t, "0+2:6 2+2:4o 4+2:2 6+2:0o"), [3]int{2, 2, 2})
	for tier := 1; tier <= tiers; tier++ {
		c := cacheOf(t, p, tier)
		here := []int{2*tier - 2, 2*tier - 1}
		for b := range 8 {
			if slices.Contains(here, b) {
				checkAdd(t, c, b, stays)
			} else {
				checkNoAdd(t, c, b, api.ErrNone)
			}
		}
		checkBlocks(t, c, []int{here[1], here[0]})
	}
}

// TestNotThere: what isn't there isn't used, and not removed; it isn't there for having been asked for.
func TestNotThere(t *testing.T) {
	for _, kind := range kinds() {
		for _, s := range someBlocks() {
			c := holding(t, "0+10:1"+kind, 6, s)
			for _, b := range []int{2, 3, 4, 6, 7} {
				checkUse(t, c, b, false)
				checkRemove(t, c, b, false)
				checkUse(t, c, b, false)
				checkAll(t, c, s)
			}
		}
	}
}

// TestGone: a block that went isn't there, and comes like any other one.
func TestGone(t *testing.T) {
	c := holding(t, "0+5:1", 2, "1 2")
	checkAdd(t, c, 3, 2)
	checkUse(t, c, 2, false)
	checkRemove(t, c, 2, false)
	checkAll(t, c, "3 1")
	checkAdd(t, c, 2, 1)
	checkAll(t, c, "2 3")
	c = holding(t, "0+5:1o", 2, "1 2")
	checkAdd(t, c, 3, 1)
	checkUse(t, c, 1, false)
	checkRemove(t, c, 1, false)
	checkAll(t, c, "3 2")
	checkAdd(t, c, 1, 3)
	checkAll(t, c, "1 2")
}

// TestNil: of no cache nothing is told, and nothing done.
func TestNil(t *testing.T) {
	var c *part.Cache
	for _, b := range append(noBlocks(), upTo(maxBlocks)...) {
		checkNoAdd(t, c, b, api.ErrNil)
		checkUse(t, c, b, false)
		checkRemove(t, c, b, false)
	}
	checkTakes(t, c, nil)
	checkAll(t, c, "")
	if l := c.All(); l != nil {
		t.Error(l)
	}
}
