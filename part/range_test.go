package part_test

import (
	"slices"
	"strings"
	"testing"
)

// kinds are those of ranges, as a hint's text ends.
func kinds() []string {
	return []string{"", "o"}
}

// someBlocks are of a range from 0 to 9, of each length up to a few, in no order.
func someBlocks() []string {
	return []string{"", "5", "5 0", "9 5 0", "0 9 5 1", "8 1 9 0 5"}
}

// first is the text of blocks with one of them, or another one, ahead.
func first(s, block string) string {
	return strings.Join([]string{block, without(s, block)}, " ")
}

// without is the text of blocks without one of them.
func without(s, block string) string {
	l := strings.Fields(s)
	return strings.Join(slices.DeleteFunc(l, func(w string) bool { return w == block }), " ")
}

// TestWhatIsThere: from each place, of a range that is full and of one that isn't, a block that is used, or added again, is first, and none goes.
func TestWhatIsThere(t *testing.T) {
	for _, kind := range kinds() {
		for _, s := range someBlocks() {
			for _, b := range strings.Fields(s) {
				n := number(t, b)
				for _, room := range []int{0, 1, 5} {
					capacity := len(strings.Fields(s)) + room
					c := holding(t, "0+10:1"+kind, capacity, s)
					checkUse(t, c, n, true)
					checkAll(t, c, first(s, b))
					c = holding(t, "0+10:1"+kind, capacity, s)
					checkAdd(t, c, n, stays)
					checkAll(t, c, first(s, b))
				}
			}
		}
	}
}

// TestRoom: where there is room none goes; where there is none, of a Loop the first one does, of others the last one.
func TestRoom(t *testing.T) {
	for _, kind := range kinds() {
		for _, s := range someBlocks()[1:] {
			now := strings.Fields(s)
			goes := now[len(now)-1]
			if kind == "o" {
				goes = now[0]
			}
			for _, b := range []string{"2", "7"} {
				c := holding(t, "0+10:1"+kind, len(now)+1, s)
				checkAdd(t, c, number(t, b), stays)
				checkAll(t, c, first(s, b))
				c = holding(t, "0+10:1"+kind, len(now), s)
				checkAdd(t, c, number(t, b), number(t, goes))
				checkAll(t, c, first(without(s, goes), b))
			}
		}
	}
}

// TestUsedLast: what goes hangs on who was used, not on who came.
func TestUsedLast(t *testing.T) {
	c := holding(t, "0+6:1o", 3, "2 1 0")
	checkUse(t, c, 0, true)
	checkAdd(t, c, 3, 0)
	checkAdd(t, c, 1, stays)
	checkAdd(t, c, 4, 1)
	checkAll(t, c, "4 3 2")
	c = holding(t, "0+6:1", 3, "2 1 0")
	checkUse(t, c, 0, true)
	checkAdd(t, c, 3, 1)
	checkAdd(t, c, 2, stays)
	checkAdd(t, c, 4, 0)
	checkAll(t, c, "4 2 3")
}

// TestCircle: where a range is gone through again and again, and one of its blocks is too many, each round but the first lacks one of them, if it is a Loop; else all of them.
func TestCircle(t *testing.T) {
	for kind, want := range map[string]int{"": 0, "o": 12} {
		c := newCache(t, "4+5:1"+kind, 4)
		used := 0
		for range 4 {
			for b := 4; b < 9; b++ {
				if c.Use(b) {
					used++
				} else {
					c.Add(b)
				}
			}
		}
		if used != want || c.Len() != 4 {
			t.Errorf("%q: %d were used, %v are there", kind, used, c.All())
		}
	}
}

// TestVictimZero: block 0 goes like any other one.
func TestVictimZero(t *testing.T) {
	c := holding(t, "0+3:1", 2, "1 0")
	checkAdd(t, c, 2, 0)
	checkUse(t, c, 0, false)
	checkAdd(t, c, 0, 1)
	checkAll(t, c, "0 2")
	c = holding(t, "0+3:1o", 2, "0 1")
	checkAdd(t, c, 2, 0)
	checkUse(t, c, 0, false)
	checkAdd(t, c, 0, 2)
	checkAll(t, c, "0 1")
}

// TestPartOfOne: each block that is added makes the one ahead of it go, whatever kind the range is of.
func TestPartOfOne(t *testing.T) {
	for _, kind := range kinds() {
		c := newCache(t, "0+32:1"+kind, 1)
		checkAdd(t, c, 7, stays)
		checkAdd(t, c, 7, stays)
		checkUse(t, c, 7, true)
		checkAdd(t, c, 0, 7)
		checkAdd(t, c, 31, 0)
		checkAll(t, c, "31")
		checkRemove(t, c, 31, true)
		checkAll(t, c, "")
		checkAdd(t, c, 7, stays)
		checkAll(t, c, "7")
	}
}

// TestPartOfAll: where a range has its part for each of its blocks none ever goes.
func TestPartOfAll(t *testing.T) {
	for _, kind := range kinds() {
		c := newCache(t, "3+5:1"+kind, 5)
		for range 3 {
			for _, b := range []int{5, 3, 7, 4, 6} {
				checkAdd(t, c, b, stays)
			}
		}
		checkAll(t, c, "6 4 7 3 5")
	}
}

// TestOthersParts: a range's blocks go for its own ones alone, whatever room others have, or lack.
func TestOthersParts(t *testing.T) {
	c := newCache(t, "0+4:9 4+4:9o 8+4:9 12+4:1", 13) // parts of 4, 4, 4 and 1
	checkAdd(t, c, 12, stays)
	checkAdd(t, c, 13, 12)
	for _, b := range []int{8, 9, 10, 4, 5, 6, 7} {
		checkAdd(t, c, b, stays)
	}
	checkAdd(t, c, 14, 13)
	checkAdd(t, c, 0, stays)
	checkAdd(t, c, 11, stays)
	checkAll(t, c, "0 7 6 5 4 11 10 9 8 14")
	c = newCache(t, "0+4:4 4+4:8o 8+3:3 11+2:1", 7) // parts of 3, 4 and none
	for _, b := range []int{0, 4, 1, 5, 2} {
		checkAdd(t, c, b, stays)
	}
	checkAll(t, c, "2 1 0 5 4")
	checkAdd(t, c, 3, 0)
	checkAdd(t, c, 6, stays)
	checkAdd(t, c, 7, stays)
	checkAdd(t, c, 0, 1)
	checkAll(t, c, "0 3 2 7 6 5 4")
}

// TestPartOfTier: of a range that is in more tiers than one, the part is that of the cache's own.
func TestPartOfTier(t *testing.T) {
	for _, kind := range kinds() {
		p := planOf(t, hints(t, "20+1:9 0+8:8"+kind), [3]int{2, 4, 2}) // the second one has parts of 1, 4 and 2
		for i, most := range []int{1, 4, 2} {
			c := cacheOf(t, p, i+1)
			for b := range most {
				checkAdd(t, c, b, stays)
			}
			goes := 0
			if kind == "o" {
				goes = most - 1
			}
			checkAdd(t, c, 7, goes)
			if c.Len() != most {
				t.Errorf("%d: %v", i+1, c.All())
			}
		}
	}
}

// TestRanges: they stand as the hints were handed in, whichever is the densest, has the lowest blocks, or was used last.
func TestRanges(t *testing.T) {
	for _, w := range []struct{ l, adds, all string }{
		{"0+2:1 2+2:9", "0 1 2 3", "1 0 3 2"},
		{"2+2:9 0+2:1", "0 1 2 3", "3 2 1 0"},
		{"0+2:9 2+2:1", "2 3 0 1", "1 0 3 2"},
		{"2+2:1 0+2:9", "2 3 0 1", "3 2 1 0"},
		{"8+2:1 0+2:5o 4+2:9", "4 0 8 5 1 9", "9 8 1 0 5 4"},
		{"8+2:1 0+2:5o 4+2:9", "9 5 1 8 4 0", "8 9 0 1 4 5"},
		{"8+2:1 0+2:5o 4+2:9", "9 4", "9 4"},
		{"8+2:1 0+2:5o 4+2:9", "5 0 4", "0 4 5"},
		{"3+1:4 7+1:8o 1+1:2 5+1:6 31+1:0o 0+1:7 4+1:1 2+1:3", "0 1 2 3 4 5 7 31", "3 7 1 5 31 0 4 2"},
		{"3+1:4 7+1:8o 1+1:2 5+1:6 31+1:0o 0+1:7 4+1:1 2+1:3", "2 0 3 4", "3 0 4 2"},
	} {
		c := newCache(t, w.l, maxCapacity)
		for _, b := range numbersOf(t, w.adds) {
			checkAdd(t, c, b, stays)
		}
		checkAll(t, c, w.all)
	}
}

// TestRangesUse: a block that is used is first of its range alone.
func TestRangesUse(t *testing.T) {
	c := holding(t, "8+3:1 0+3:5o 4+3:9", 9, "10 9 8 2 1 0 6 5 4")
	checkUse(t, c, 5, true)
	checkAll(t, c, "10 9 8 2 1 0 5 6 4")
	checkUse(t, c, 0, true)
	checkAll(t, c, "10 9 8 0 2 1 5 6 4")
	checkAdd(t, c, 8, stays)
	checkAll(t, c, "8 10 9 0 2 1 5 6 4")
	checkUse(t, c, 8, true)
	checkRemove(t, c, 2, true)
	checkAll(t, c, "8 10 9 0 1 5 6 4")
	checkAdd(t, c, 2, stays)
	checkAll(t, c, "8 10 9 2 0 1 5 6 4")
}

// TestRemove: from each place a block goes, once; there is room for another one then, or for itself.
func TestRemove(t *testing.T) {
	for _, kind := range kinds() {
		for _, s := range someBlocks() {
			for _, b := range strings.Fields(s) {
				n, rest := number(t, b), without(s, b)
				for _, other := range []string{b, "3"} {
					c := holding(t, "0+10:1"+kind, len(strings.Fields(s)), s)
					checkRemove(t, c, n, true)
					checkAll(t, c, rest)
					checkRemove(t, c, n, false)
					checkUse(t, c, n, false)
					checkAll(t, c, rest)
					checkAdd(t, c, number(t, other), stays)
					checkAll(t, c, first(rest, other))
				}
			}
		}
	}
}

// TestRemoveAll: an emptied one is like a new one.
func TestRemoveAll(t *testing.T) {
	const l = "8+4:4 0+4:4o"
	c := holding(t, l, 7, "10 9 8 11 3 2 1")
	for _, b := range []int{2, 9, 10, 3, 11, 1, 8} {
		checkRemove(t, c, b, true)
	}
	checkAll(t, c, "")
	for _, b := range []int{3, 8, 2, 11, 0, 9, 10} {
		checkAdd(t, c, b, stays)
	}
	checkAdd(t, c, 1, 0)
	checkAll(t, c, "10 9 11 8 1 2 3")
}
