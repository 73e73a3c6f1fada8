package part_test

import (
	"slices"
	"testing"

	"gradine/api"
	"gradine/karma"
)

// spoil writes all over l and its spare room.
func spoil(l []int) {
	l = l[:cap(l)]
	for i := range l {
		l[i] = 77
	}
}

const (
	ranges = "8+4:9 0+4:5o 16+8:9"
	held   = "10 9 8 2 1 0 20 23 21"
)

// TestWhatIsAnsweredIsNew: who changes it, spare room included, changes neither the cache nor another answer.
func TestWhatIsAnsweredIsNew(t *testing.T) {
	for _, s := range []string{"", "9", "0", "10 9 8 11", "1 20", held, "10 9 8 11 2 1 0 3 16 17 18 19 20 21 22 23"} {
		c := holding(t, ranges, maxCapacity, s)
		one, other := c.All(), c.All()
		spoil(one)
		if !slices.Equal(other, numbersOf(t, s)) {
			t.Errorf("%q: the other answer is %v", s, other)
		}
		checkAll(t, c, s)
		spoil(other)
		checkAll(t, c, s)
	}
}

// TestAnAnswerStays: what is done behind it doesn't change it.
func TestAnAnswerStays(t *testing.T) {
	c := holding(t, ranges, 9, "10 9 8 20")
	all := c.All()
	checkUse(t, c, 8, true)
	checkAdd(t, c, 0, stays)
	checkRemove(t, c, 9, true)
	spoil(c.All())
	if !slices.Equal(all, []int{10, 9, 8, 20}) {
		t.Error(all)
	}
	checkAll(t, c, "8 10 0 20")
}

// TestAskingChangesNothing: whatever is asked, however often; to have isn't to use, nor is to take.
func TestAskingChangesNothing(t *testing.T) {
	c := holding(t, "0+8:1 8+8:1o", 6, "3 2 1 0 5 4")
	for range 3 {
		for _, b := range append(noBlocks(), 3, 0, 1, 2, 6, 8, 15, 2, 5) {
			c.Has(b)
			c.Takes(b)
			c.All()
			c.Len()
		}
		checkAll(t, c, "3 2 1 0 5 4")
	}
	checkAdd(t, c, 6, 4)
	checkAll(t, c, "6 3 2 1 0 5")
}

// TestThePlanStays: whatever is done to its caches, a plan is as it was.
func TestThePlanStays(t *testing.T) {
	p := planOf(t, hints(t, ranges), [3]int{9, 4, 2})
	want := []karma.Part{{Tiers: [4]int{4, 0, 0, 0}}, {Tiers: [4]int{4, 0, 0, 0}}, {Tiers: [4]int{1, 4, 2, 1}}}
	for tier := 1; tier <= tiers; tier++ {
		c := cacheOf(t, p, tier)
		for b := range maxBlocks {
			c.Add(b)
			c.Use(b / 2)
			c.Remove(b / 3)
		}
		if got := p.Parts(); !slices.Equal(got, want) {
			t.Fatal(got)
		}
	}
	if i, is := p.Range(17); i != 2 || !is || p.Loop(17) || !p.Loop(0) {
		t.Error(i, is)
	}
	if e := p.Set(nil); e != api.OK {
		t.Error(int(e))
	}
}

// TestHintsAreNotKept: who changes those by which the plan was made changes no cache.
func TestHintsAreNotKept(t *testing.T) {
	l := hints(t, "0+4:1o 4+4:1")
	c := cacheOf(t, planOf(t, l, [3]int{5, 1, 1}), 1)
	for i := range l {
		l[i] = api.Hint{From: 20, Size: 40, Often: -3, Loop: i > 0}
	}
	for _, b := range []int{0, 1, 2, 4} {
		checkAdd(t, c, b, stays)
	}
	checkAdd(t, c, 3, stays)
	checkAdd(t, c, 5, 4)
	checkAll(t, c, "3 2 1 0 5")
}
