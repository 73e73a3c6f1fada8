package karma_test

import (
	"math"
	"slices"
	"strconv"
	"strings"
	"testing"

	"gradine/api"
	"gradine/karma"
)

const (
	maxBlocks   = 32
	maxCapacity = 16
	none        = 3 // the place in a part
)

// beyond are numbers that aren't from least to most: those next to it, and those that would wrap round.
func beyond(least, most int) []int {
	return []int{least - 1, least - 2, least - 16, most + 1, most + 2, most + 1<<8, 1 << 32, 1<<32 + least, 1<<32 + most, math.MaxInt, math.MinInt}
}

// number is what a text says.
func number(t *testing.T, s string) int {
	t.Helper()
	n, e := strconv.Atoi(s)
	if e != nil {
		t.Fatal(e)
	}
	return n
}

// hints are what a text says: "3+2:7 8+1:5o" is one from block 3 on, of 2 blocks, Often 7, and one from 8 on, of 1, Often 5, Loop.
func hints(t *testing.T, text string) []api.Hint {
	t.Helper()
	var l []api.Hint
	for _, w := range strings.Fields(text) {
		w, loop := strings.CutSuffix(w, "o")
		blocks, often, _ := strings.Cut(w, ":")
		from, size, _ := strings.Cut(blocks, "+")
		l = append(l, api.Hint{From: number(t, from), Size: number(t, size), Often: number(t, often), Loop: loop})
	}
	return l
}

// parts are what a text says: "1/2/0/3" is a range's, with 1 block in tier 1, 2 in tier 2, 3 in none.
func parts(t *testing.T, text string) []karma.Part {
	t.Helper()
	var l []karma.Part
	for _, w := range strings.Fields(text) {
		var p karma.Part
		for i, n := range strings.Split(w, "/") {
			p.Tiers[i] = number(t, n)
		}
		l = append(l, p)
	}
	return l
}

// newPlan is one of so many blocks, with these capacities, by the hints that a text says.
func newPlan(t *testing.T, blocks int, caps [3]int, text string) *karma.Plan {
	t.Helper()
	return planOf(t, blocks, caps, hints(t, text))
}

func planOf(t *testing.T, blocks int, caps [3]int, l []api.Hint) *karma.Plan {
	t.Helper()
	p, e := karma.New(l, blocks, caps)
	if p == nil || e != api.OK {
		t.Fatalf("New(%v, %d, %v): %v %d", l, blocks, caps, p, int(e))
	}
	return p
}

// checkRange tells where what is asked of a block is otherwise than that of the hint at that place; below 0: than that of no hint.
func checkRange(t *testing.T, p *karma.Plan, block, place int, h api.Hint, x karma.Part) {
	t.Helper()
	if i, is := p.Range(block); i != max(place, 0) || is != (place >= 0) {
		t.Errorf("Range(%d): %d %t, not %d", block, i, is, place)
	}
	if loop := p.Loop(block); loop != h.Loop {
		t.Errorf("Loop(%d): %t", block, loop)
	}
	for tier := 1; tier <= none; tier++ {
		if n := p.Part(block, tier); n != x.Tiers[tier-1] {
			t.Errorf("Part(%d, %d): %d, not %d", block, tier, n, x.Tiers[tier-1])
		}
	}
	for _, tier := range beyond(1, 3) {
		if n := p.Part(block, tier); n != 0 {
			t.Errorf("Part(%d, %d): %d", block, tier, n)
		}
	}
}

// checkPlan tells where anything that can be asked of the plan is otherwise than by these hints and parts.
func checkPlan(t *testing.T, p *karma.Plan, l []api.Hint, want []karma.Part) {
	t.Helper()
	if got := p.Parts(); !slices.Equal(got, want) {
		t.Errorf("Parts: %v, not %v", got, want)
	}
	for block := range maxBlocks {
		place, h, x := -1, api.Hint{}, karma.Part{}
		for i := range l {
			if block >= l[i].From && block < l[i].From+l[i].Size {
				place, h, x = i, l[i], want[i]
			}
		}
		checkRange(t, p, block, place, h, x)
	}
	for _, block := range beyond(0, maxBlocks-1) {
		checkRange(t, p, block, -1, api.Hint{}, karma.Part{})
	}
}

// checkTold is checkPlan, of what is told as texts.
func checkTold(t *testing.T, p *karma.Plan, l, want string) {
	t.Helper()
	checkPlan(t, p, hints(t, l), parts(t, want))
}

// TestExample is the chapter's.
func TestExample(t *testing.T) {
	const l = "0+2:1 2+1:5"
	checkTold(t, newPlan(t, 3, [3]int{1, 1, 1}, l), l, "0/1/1/0 1/0/0/0")
}

// TestNew: each number of blocks and each capacity may be.
func TestNew(t *testing.T) {
	for n := 1; n <= maxBlocks; n++ {
		for c := 1; c <= maxCapacity; c++ {
			for _, caps := range [][3]int{{c, 1, 1}, {1, c, 1}, {1, 1, c}, {c, 17 - c, 16}} {
				checkTold(t, newPlan(t, n, caps, ""), "", "")
				l := []api.Hint{{Size: n, Often: 3, Loop: n%2 == 0}}
				first := min(n, caps[0])
				second := min(n-first, caps[1])
				third := min(n-first-second, caps[2])
				want := karma.Part{Tiers: [4]int{first, second, third, n - first - second - third}}
				checkPlan(t, planOf(t, n, caps, l), l, []karma.Part{want})
			}
		}
	}
}

// TestRange: of a plan's hints each block is in one, or none, whatever lies between, and in whichever order they stand.
func TestRange(t *testing.T) {
	for _, c := range []struct{ l, want string }{
		{"0+32:1o", "1/1/1/29"},
		{"0+1:1 31+1:1o", "1/0/0/0 0/1/0/0"},
		{"31+1:1o 0+1:1", "1/0/0/0 0/1/0/0"},
		{"1+30:1", "1/1/1/27"},
		{"5+3:3o 8+2:2 1+4:4o", "1/1/1/0 0/0/0/2 0/0/0/4"},
		{"7+1:1o 6+1:2 5+1:3o 4+1:4 3+1:5o 2+1:6 1+1:7o 0+1:8", "0/0/0/1 0/0/0/1 0/0/0/1 0/0/0/1 0/0/0/1 0/0/1/0 0/1/0/0 1/0/0/0"},
	} {
		if checkTold(t, newPlan(t, 32, [3]int{1, 1, 1}, c.l), c.l, c.want); t.Failed() {
			t.Fatal(c)
		}
	}
}

// TestApart: what is set of one plan isn't of another one.
func TestApart(t *testing.T) {
	const l = "0+2:1 2+1:5"
	a, b := newPlan(t, 4, [3]int{1, 1, 1}, l), newPlan(t, 4, [3]int{2, 1, 1}, l)
	checkTold(t, b, l, "1/1/0/0 1/0/0/0")
	if e := a.Set(hints(t, "3+1:7o")); e != api.OK {
		t.Error(int(e))
	}
	checkTold(t, a, "3+1:7o", "1/0/0/0")
	checkTold(t, b, l, "1/1/0/0 1/0/0/0")
}
