package conf_test

import (
	"math"
	"slices"
	"testing"

	"gradine/api"
	"gradine/conf"
)

const maxOften = 1<<31 - 1

// least is right, and each of its numbers is as little as may be.
func least() api.Config {
	return api.Config{Clients: 1, Slots: 1, Blocks: 1, Size: 1, Mode: api.MInclusive, Policy: [3]int{1, 1, 1}, Cap: [3]int{1, 1, 1}, Queues: 1, Life: 1, Demote: 1}
}

// parted is right, has room for hints, and each of its numbers may be one more or one less.
func parted(l ...api.Hint) api.Config {
	return api.Config{Clients: 2, Slots: 3, Blocks: 20, Size: 4, Mode: api.MExclusive, Place: api.PKarma, Policy: [3]int{1, 2, 1}, Cap: [3]int{5, 6, 7}, Queues: 3, Life: 50, Ghost: 8, Demote: 9, Hints: l}
}

// field is a number of a configuration: its name, from what to what it may be, and where it stands.
type field struct {
	name        string
	least, most int
	at          func(c *api.Config) *int
}

// fields are all of them, in the order in which their bytes are told.
func fields() []field {
	return []field{
		{"Clients", 1, 4, func(c *api.Config) *int { return &c.Clients }},
		{"Slots", 1, 4, func(c *api.Config) *int { return &c.Slots }},
		{"Blocks", 1, 32, func(c *api.Config) *int { return &c.Blocks }},
		{"Size", 1, 16, func(c *api.Config) *int { return &c.Size }},
		{"Mode", 1, 3, func(c *api.Config) *int { return &c.Mode }},
		{"Place", 0, 2, func(c *api.Config) *int { return &c.Place }},
		{"Policy[0]", 1, 2, func(c *api.Config) *int { return &c.Policy[0] }},
		{"Policy[1]", 1, 2, func(c *api.Config) *int { return &c.Policy[1] }},
		{"Policy[2]", 1, 2, func(c *api.Config) *int { return &c.Policy[2] }},
		{"Cap[0]", 1, 16, func(c *api.Config) *int { return &c.Cap[0] }},
		{"Cap[1]", 1, 16, func(c *api.Config) *int { return &c.Cap[1] }},
		{"Cap[2]", 1, 16, func(c *api.Config) *int { return &c.Cap[2] }},
		{"Queues", 1, 8, func(c *api.Config) *int { return &c.Queues }},
		{"Life", 1, 100, func(c *api.Config) *int { return &c.Life }},
		{"Ghost", 0, 16, func(c *api.Config) *int { return &c.Ghost }},
		{"Demote", 1, 16, func(c *api.Config) *int { return &c.Demote }},
	}
}

func TestEachNumbersBounds(t *testing.T) {
	for _, f := range fields() {
		c := parted()
		if f.name == "Mode" {
			c.Place = api.PAll // so that each mode may be
		}
		values := []int{math.MinInt, -1 << 32, -1, math.MaxInt, 1<<32 + 1}
		for n := -3; n <= 200; n++ {
			values = append(values, n)
		}
		for _, n := range values {
			*f.at(&c) = n
			if got, want := conf.Right(c), n >= f.least && n <= f.most; got != want {
				t.Errorf("%s %d: %t", f.name, n, got)
			}
		}
	}
}

func TestLeastAndMost(t *testing.T) {
	if !conf.Right(least()) {
		t.Error("the least one isn't right")
	}
	if conf.Right(api.Config{}) {
		t.Error("the zero value is right")
	}
	for _, mode := range []int{api.MInclusive, api.MExclusive, api.MNine} {
		var c api.Config
		for _, f := range fields() {
			*f.at(&c) = f.most
		}
		c.Mode = mode
		if got := conf.Right(c); got != (mode == api.MExclusive) {
			t.Errorf("the most of all, mode %d: %t", mode, got)
		}
	}
}

func TestPlacesOfModes(t *testing.T) {
	hint := []api.Hint{{From: 1, Size: 2, Often: 3}}
	for _, x := range []struct {
		mode, place   int
		without, with bool
	}{
		{api.MInclusive, api.PAll, true, false},
		{api.MInclusive, api.PUni, false, false},
		{api.MInclusive, api.PKarma, false, false},
		{api.MExclusive, api.PAll, true, false},
		{api.MExclusive, api.PUni, true, false},
		{api.MExclusive, api.PKarma, true, true},
		{api.MNine, api.PAll, true, false},
		{api.MNine, api.PUni, false, false},
		{api.MNine, api.PKarma, false, false},
	} {
		c := parted()
		c.Mode, c.Place = x.mode, x.place
		if got := conf.Right(c); got != x.without {
			t.Errorf("mode %d, place %d: %t", x.mode, x.place, got)
		}
		c.Hints = []api.Hint{}
		if got := conf.Right(c); got != x.without {
			t.Errorf("mode %d, place %d, an empty list: %t", x.mode, x.place, got)
		}
		c.Hints = hint
		if got := conf.Right(c); got != x.with {
			t.Errorf("mode %d, place %d, a hint: %t", x.mode, x.place, got)
		}
	}
}

func TestHintsOfAConfigurationAreForItsBlocks(t *testing.T) {
	c := parted(api.Hint{From: 5, Size: 5}, api.Hint{From: 0, Size: 2})
	for blocks := 1; blocks <= 32; blocks++ {
		c.Blocks = blocks
		if got := conf.Right(c); got != (blocks >= 10) {
			t.Errorf("of %d blocks: %t", blocks, got)
		}
	}
}

// singles are n hints of one block each.
func singles(n int) []api.Hint {
	l := make([]api.Hint, n)
	for i := range l {
		l[i] = api.Hint{From: 2 * i, Size: 1, Often: i}
	}
	return l
}

func TestHints(t *testing.T) {
	for _, x := range []struct {
		name   string
		l      []api.Hint
		blocks int
		want   bool
	}{
		{"none", nil, 10, true},
		{"an empty list", []api.Hint{}, 10, true},
		{"none of no block", nil, 0, true},
		{"none of less than no block", nil, math.MinInt, true},
		{"none of many blocks", nil, math.MaxInt, true},
		{"one block", []api.Hint{{From: 0, Size: 1}}, 1, true},
		{"of no block", []api.Hint{{From: 0, Size: 1}}, 0, false},
		{"of less than no block", []api.Hint{{From: 0, Size: 1}}, -1, false},
		{"of much less than no block", []api.Hint{{From: 0, Size: 1}}, math.MinInt, false},
		{"the zero value", []api.Hint{{}}, 10, false},
		{"all", []api.Hint{{From: 0, Size: 10}}, 10, true},
		{"one more than all", []api.Hint{{From: 0, Size: 11}}, 10, false},
		{"the last one", []api.Hint{{From: 9, Size: 1}}, 10, true},
		{"beyond the last one", []api.Hint{{From: 10, Size: 1}}, 10, false},
		{"across the end", []api.Hint{{From: 9, Size: 2}}, 10, false},
		{"nothing, at the end", []api.Hint{{From: 10, Size: 0}}, 10, false},
		{"From below 0", []api.Hint{{From: -1, Size: 1}}, 10, false},
		{"From below 0, the end within", []api.Hint{{From: -1, Size: 5}}, 10, false},
		{"Size 0", []api.Hint{{From: 1, Size: 0}}, 10, false},
		{"Size below 0", []api.Hint{{From: 5, Size: -1}}, 10, false},
		{"32 blocks", []api.Hint{{From: 0, Size: 32}}, 32, true},
		{"32 of more", []api.Hint{{From: 0, Size: 32}}, 33, true},
		{"33 of more", []api.Hint{{From: 0, Size: 33}}, 33, false},
		{"33 of many more", []api.Hint{{From: 32, Size: 1}}, math.MaxInt, false},
		{"Often 0", []api.Hint{{From: 0, Size: 1, Often: 0}}, 10, true},
		{"Often below 0", []api.Hint{{From: 0, Size: 1, Often: -1}}, 10, false},
		{"Often the least number", []api.Hint{{From: 0, Size: 1, Often: math.MinInt}}, 10, false},
		{"Often the most", []api.Hint{{From: 0, Size: 1, Often: maxOften}}, 10, true},
		{"Often one more", []api.Hint{{From: 0, Size: 1, Often: maxOften + 1}}, 10, false},
		{"Often the greatest number", []api.Hint{{From: 0, Size: 1, Often: math.MaxInt}}, 10, false},
		{"the sum wraps to 0", []api.Hint{{From: math.MaxInt, Size: math.MaxInt}}, 10, false},
		{"the sum wraps below 0", []api.Hint{{From: math.MaxInt, Size: 1}}, 10, false},
		{"the size alone is too great", []api.Hint{{From: 1, Size: math.MaxInt}}, 10, false},
		{"the least From", []api.Hint{{From: math.MinInt, Size: 1}}, 10, false},
		{"the least Size", []api.Hint{{From: 1, Size: math.MinInt}}, 10, false},
		{"a great Size of a From below 0", []api.Hint{{From: -math.MaxInt, Size: math.MaxInt}}, 10, false},
		{"8", singles(8), 15, true},
		{"8, the last one beyond", singles(8), 14, false},
		{"9", singles(9), 32, false},
		{"9, the last one wrong", append(singles(8), api.Hint{}), 32, false},
		{"1000", make([]api.Hint, 1000), 32, false},
	} {
		if got := conf.Hints(x.l, x.blocks); got != x.want {
			t.Errorf("%s: %t", x.name, got)
		}
	}
}

func TestWrongAtEachPlace(t *testing.T) {
	for n := 1; n <= 8; n++ {
		for at := range n {
			for _, h := range []api.Hint{{From: -1, Size: 1}, {From: 31, Size: 2}, {From: 31, Size: 0}, {From: 31, Size: 1, Often: -1}} {
				l := singles(n)
				l[at] = h
				if conf.Hints(l, 32) {
					t.Errorf("of %d hints %d is %v: right", n, at, h)
				}
			}
		}
	}
}

// alone tells whether no block is in two of l, whose hints are right each by itself.
func alone(l []api.Hint) bool {
	in := map[int]int{}
	for _, h := range l {
		for b := h.From; b < h.From+h.Size; b++ {
			in[b]++
			if in[b] > 1 {
				return false
			}
		}
	}
	return true
}

// ranges are all the hints that n blocks have room for.
func ranges(n int) []api.Hint {
	var l []api.Hint
	for from := range n {
		for size := 1; from+size <= n; size++ {
			l = append(l, api.Hint{From: from, Size: size, Often: from, Loop: size%2 == 0})
		}
	}
	return l
}

func TestNoBlockInTwo(t *testing.T) {
	all := ranges(6)
	for _, a := range all {
		for _, b := range all {
			l := []api.Hint{a, b}
			if got := conf.Hints(l, 6); got != alone(l) {
				t.Fatalf("%v: %t", l, got)
			}
			for _, c := range all {
				l := []api.Hint{a, b, c}
				if got := conf.Hints(l, 6); got != alone(l) {
					t.Fatalf("%v: %t", l, got)
				}
			}
		}
	}
	for block := range 32 {
		if conf.Hints([]api.Hint{{From: 0, Size: 32}, {From: block, Size: 1}}, 32) {
			t.Errorf("block %d is in two", block)
		}
	}
}

func TestAnyOfTwoTellsWrong(t *testing.T) {
	for i := range 8 {
		for j := range i {
			l := singles(8)
			l[i].From = l[j].From
			if conf.Hints(l, 32) {
				t.Errorf("%d and %d are of one block", j, i)
			}
		}
	}
}

func TestAskingChangesNothing(t *testing.T) {
	for _, wrong := range []bool{false, true} {
		all := append(singles(8), make([]api.Hint, 4)...)
		if wrong {
			all[3].From = 0
		}
		was := slices.Clone(all)
		l := all[:8]
		c := parted(l...)
		for range 2 {
			if conf.Hints(l, 20) == wrong || conf.Right(c) == wrong {
				t.Errorf("wrong: %t, and answered so", !wrong)
			}
		}
		if !slices.Equal(all, was) {
			t.Errorf("%v is %v now", was, all)
		}
	}
}

// TestSpareRoomOfHints: what is behind the list's end may be wrong.
func TestSpareRoomOfHints(t *testing.T) {
	all := append(singles(8), make([]api.Hint, 8)...)
	if !conf.Hints(all[:8], 32) || !conf.Hints(all[:0], 0) {
		t.Error("spare room was asked")
	}
}
