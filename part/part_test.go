package part_test

import (
	"math"
	"slices"
	"strconv"
	"strings"
	"testing"

	"gradine/api"
	"gradine/karma"
	"gradine/part"
)

const (
	maxBlocks   = 32
	maxCapacity = 16
	tiers       = 3
	stays       = -1 // where none goes
)

// beyond are numbers that aren't from least to most: those next to it, and those that would wrap round.
func beyond(least, most int) []int {
	return []int{least - 1, least - 2, least - 64, most + 1, most + 2, most + 1<<8, 1 << 32, 1<<32 + least, 1<<32 + most, math.MaxInt, math.MinInt}
}

// noBlocks are numbers of no block, some of which a list might hold.
func noBlocks() []int {
	return append(beyond(0, maxBlocks-1), 40, 62, 63, 64, 65)
}

// number is what a text says.
func number(t *testing.T, s string) int {
	t.Helper()
	n, e := strconv.Atoi(s)
	if e != nil {
		t.Fatal(e)
	}
	return n
}

// numbersOf cuts a text at blanks.
func numbersOf(t *testing.T, s string) []int {
	t.Helper()
	var l []int
	for _, w := range strings.Fields(s) {
		l = append(l, number(t, w))
	}
	return l
}

// hints are what a text says: "3+2:7 8+1:5o" is one from block 3 on, of 2 blocks, Often 7, and one from 8 on, of 1, Often 5, Loop.
func hints(t *testing.T, text string) []api.Hint {
	t.Helper()
	var l []api.Hint
	for _, w := range strings.Fields(text) {
		w, loop := strings.CutSuffix(w, "o")
		blocks, often, _ := strings.Cut(w, ":")
		from, size, _ := strings.Cut(blocks, "+")
		l = append(l, api.Hint{From: number(t, from), Size: number(t, size), Often: number(t, often), Loop: loop})
	}
	return l
}

func planOf(t *testing.T, l []api.Hint, caps [3]int) *karma.Plan {
	t.Helper()
	p, e := karma.New(l, maxBlocks, caps)
	if p == nil || e != api.OK {
		t.Fatalf("New(%v, %v): %v %d", l, caps, p, int(e))
	}
	return p
}

func cacheOf(t *testing.T, p *karma.Plan, tier int) *part.Cache {
	t.Helper()
	c, e := part.New(p, tier)
	if c == nil || e != api.OK {
		t.Fatalf("New(%d): %v %d", tier, c, int(e))
	}
	return c
}

// newCache is one of tier 1, which has that capacity, by the hints that a text says.
func newCache(t *testing.T, l string, capacity int) *part.Cache {
	t.Helper()
	return cacheOf(t, planOf(t, hints(t, l), [3]int{capacity, 1, 1}), 1)
}

// holding is newCache with these blocks, range by range, the one that was used last first.
func holding(t *testing.T, l string, capacity int, blocks string) *part.Cache {
	t.Helper()
	c := newCache(t, l, capacity)
	for _, b := range slices.Backward(numbersOf(t, blocks)) {
		checkAdd(t, c, b, stays)
	}
	checkAll(t, c, blocks)
	return c
}

// checkAdd tells where Add has another block go than want.
func checkAdd(t *testing.T, c *part.Cache, block, want int) {
	t.Helper()
	if v, gone, e := c.Add(block); v != max(want, 0) || gone != (want != stays) || e != api.OK {
		t.Errorf("Add(%d): %d %t %d, not %d", block, v, gone, int(e), want)
	}
}

// checkNoAdd tells where Add answers another error, or anything beside it.
func checkNoAdd(t *testing.T, c *part.Cache, block int, want api.Errno) {
	t.Helper()
	if v, gone, e := c.Add(block); v != 0 || gone || e != want {
		t.Errorf("Add(%d): %d %t %d, not %d", block, v, gone, int(e), int(want))
	}
}

func checkUse(t *testing.T, c *part.Cache, block int, want bool) {
	t.Helper()
	if c.Use(block) != want {
		t.Errorf("Use(%d): %t", block, !want)
	}
}

func checkRemove(t *testing.T, c *part.Cache, block int, want bool) {
	t.Helper()
	if c.Remove(block) != want {
		t.Errorf("Remove(%d): %t", block, !want)
	}
}

// checkTakes tells where others than these blocks are taken.
func checkTakes(t *testing.T, c *part.Cache, want []int) {
	t.Helper()
	for _, b := range append(noBlocks(), upTo(maxBlocks)...) {
		if c.Takes(b) != slices.Contains(want, b) {
			t.Errorf("Takes(%d): %t, of %v", b, c.Takes(b), want)
		}
	}
}

// checkBlocks tells where the cache has others than these blocks, or has them in another order.
func checkBlocks(t *testing.T, c *part.Cache, want []int) {
	t.Helper()
	if got := c.All(); !slices.Equal(got, want) {
		t.Errorf("All: %v, not %v", got, want)
	}
	if c.Len() != len(want) {
		t.Errorf("Len: %d, of %v", c.Len(), want)
	}
	for _, b := range append(noBlocks(), upTo(maxBlocks)...) {
		if c.Has(b) != slices.Contains(want, b) {
			t.Errorf("Has(%d): %t, of %v", b, c.Has(b), want)
		}
	}
}

// checkAll is checkBlocks, of blocks that are told as a text.
func checkAll(t *testing.T, c *part.Cache, want string) {
	t.Helper()
	checkBlocks(t, c, numbersOf(t, want))
}

// upTo answers the numbers ahead of n, the greatest first.
func upTo(n int) []int {
	var l []int
	for i := range n {
		l = append([]int{i}, l...)
	}
	return l
}

// TestExample is the chapter's.
func TestExample(t *testing.T) {
	c := newCache(t, "0+3:1o", 2)
	checkAdd(t, c, 0, stays)
	checkAdd(t, c, 1, stays)
	checkAdd(t, c, 2, 1)
	checkAll(t, c, "2 0")
}

// TestNew: it is empty, and holds of a range as many as its part of the tier, whichever tier it is.
func TestNew(t *testing.T) {
	for n := 1; n <= maxCapacity; n++ {
		for tier := 1; tier <= tiers; tier++ {
			caps := [3]int{1, 2, 3}
			caps[tier-1] = n
			c := cacheOf(t, planOf(t, hints(t, "0+32:7"), caps), tier)
			checkBlocks(t, c, nil)
			checkTakes(t, c, upTo(maxBlocks))
			for b := range n {
				checkAdd(t, c, b, stays)
			}
			checkBlocks(t, c, upTo(n))
			for b := n; b < maxBlocks; b++ {
				checkAdd(t, c, b, b-n)
				checkBlocks(t, c, upTo(b + 1)[:n])
			}
		}
	}
}

// TestNewLoop: of a Loop those that were used ahead of the last one stay.
func TestNewLoop(t *testing.T) {
	for n := 1; n <= maxCapacity; n++ {
		for tier := 1; tier <= tiers; tier++ {
			caps := [3]int{1, 2, 3}
			caps[tier-1] = n
			c := cacheOf(t, planOf(t, hints(t, "0+32:7o"), caps), tier)
			checkBlocks(t, c, nil)
			for b := range n {
				checkAdd(t, c, b, stays)
			}
			for b := n; b < maxBlocks; b++ {
				checkAdd(t, c, b, b-1)
				checkBlocks(t, c, append([]int{b}, upTo(n-1)...))
			}
		}
	}
}

// TestTakes: each tier takes blocks of the ranges that have a part of it, and all of their blocks.
func TestTakes(t *testing.T) {
	for _, w := range []struct {
		l     string
		caps  [3]int
		takes [3]string // by the tier
	}{
		{"", [3]int{16, 16, 16}, [3]string{}},
		{"0+1:1", [3]int{1, 1, 1}, [3]string{"0"}},
		{"31+1:1o", [3]int{1, 1, 1}, [3]string{"31"}},
		{"0+2:1", [3]int{1, 1, 1}, [3]string{"0 1", "0 1"}},
		{"0+3:1o", [3]int{1, 1, 1}, [3]string{"0 1 2", "0 1 2", "0 1 2"}},
		{"1+5:0", [3]int{1, 1, 1}, [3]string{"1 2 3 4 5", "1 2 3 4 5", "1 2 3 4 5"}},
		// the densest one alone has tier 1, the next one tiers 2 and 3, the last one none
		{"0+2:1 4+3:9o 10+1:9", [3]int{1, 2, 1}, [3]string{"10", "4 5 6", "4 5 6"}},
		{"10+1:9 0+2:1 4+3:9o", [3]int{1, 2, 1}, [3]string{"10", "4 5 6", "4 5 6"}},
		{"0+2:1 4+3:9o 10+1:9", [3]int{2, 2, 1}, [3]string{"4 5 6 10", "4 5 6", "0 1"}},
		{"0+4:4 4+3:9o", [3]int{5, 1, 1}, [3]string{"0 1 2 3 4 5 6", "0 1 2 3", "0 1 2 3"}},
		{"7+1:1o 6+1:2 5+1:3o 4+1:4 3+1:5o 2+1:6 1+1:7o 0+1:8", [3]int{1, 2, 3}, [3]string{"0", "1 2", "3 4 5"}},
	} {
		for i, takes := range w.takes {
			c := cacheOf(t, planOf(t, hints(t, w.l), w.caps), i+1)
			if checkTakes(t, c, numbersOf(t, takes)); t.Failed() {
				t.Fatal(w.l, w.caps, i+1)
			}
			for _, b := range numbersOf(t, takes) {
				checkNoError(t, c, b)
			}
			checkTakes(t, c, numbersOf(t, takes))
		}
	}
}

// checkNoError tells where a block that is taken can't be added.
func checkNoError(t *testing.T, c *part.Cache, block int) {
	t.Helper()
	if _, _, e := c.Add(block); e != api.OK || !c.Has(block) {
		t.Errorf("Add(%d): %d, %t", block, int(e), c.Has(block))
	}
}

// TestApart: what is in one cache is in no other one, be it of the same plan and tier.
func TestApart(t *testing.T) {
	p := planOf(t, hints(t, "0+6:1 8+6:1o"), [3]int{8, 2, 2})
	a, b, low, other := cacheOf(t, p, 1), cacheOf(t, p, 1), cacheOf(t, p, 2), newCache(t, "8+6:1 0+6:1o", 12)
	for _, block := range []int{1, 9, 2, 10} {
		checkAdd(t, a, block, stays)
	}
	for _, c := range []*part.Cache{b, low, other} {
		checkAll(t, c, "")
		checkUse(t, c, 1, false)
		checkRemove(t, c, 9, false)
	}
	checkAdd(t, b, 10, stays)
	checkAdd(t, low, 11, stays)
	checkAdd(t, low, 12, stays)
	checkAdd(t, low, 10, 12)
	checkAdd(t, other, 1, stays)
	checkAdd(t, other, 10, stays)
	checkRemove(t, a, 10, true)
	checkUse(t, a, 1, true)
	checkAll(t, a, "1 2 9")
	checkAll(t, b, "10")
	checkAll(t, low, "10 11")
	checkAll(t, other, "10 1")
}
