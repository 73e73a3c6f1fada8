package karma_test

import (
	"slices"
	"testing"

	"gradine/api"
	"gradine/karma"
)

const (
	told      = "0+4:8 4+2:10o 8+3:6"
	toldParts = "1/2/1/0 2/0/0/0 0/0/1/2"
)

// spoil writes all over l and its spare room.
func spoil[T any](l []T, with T) {
	l = l[:cap(l)]
	for i := range l {
		l[i] = with
	}
}

// spacious are l, as a list with spare room, and all of that room.
func spacious[T any](l []T, spare T) (list, all []T) {
	all = slices.Concat(l, slices.Repeat([]T{spare}, 8))
	return all[:len(l)], all
}

var (
	strange     = api.Hint{From: 20, Size: 40, Often: -3, Loop: true}
	strangePart = karma.Part{Tiers: [4]int{77, -7, 7, 77}}
)

// TestHintsAreNotKept: who changes what was handed in changes no plan, and what is handed in isn't changed, spare room included.
func TestHintsAreNotKept(t *testing.T) {
	for _, set := range []bool{false, true} {
		l, all := spacious(hints(t, told), strange)
		was := slices.Clone(all)
		var p *karma.Plan
		if set {
			p = newPlan(t, 12, [3]int{3, 2, 2}, "0+1:1")
			p.Set(l)
		} else {
			p = planOf(t, 12, [3]int{3, 2, 2}, l)
		}
		if !slices.Equal(all, was) {
			t.Errorf("%v is %v now", was, all)
		}
		checkTold(t, p, told, toldParts)
		spoil(all, strange)
		checkTold(t, p, told, toldParts)
	}
}

// TestPartsAreNew: who changes what Parts answers, spare room included, changes neither the plan nor another answer.
func TestPartsAreNew(t *testing.T) {
	p := newPlan(t, 12, [3]int{3, 2, 2}, told)
	one, other := p.Parts(), p.Parts()
	spoil(one, strangePart)
	if !slices.Equal(other, parts(t, toldParts)) {
		t.Error("the other answer is", other)
	}
	checkTold(t, p, told, toldParts)
	spoil(other, strangePart)
	checkTold(t, p, told, toldParts)
}

// TestAnAnswerStays: what is set behind it doesn't change it.
func TestAnAnswerStays(t *testing.T) {
	p := newPlan(t, 12, [3]int{3, 2, 2}, told)
	l := p.Parts()
	p.Set(hints(t, "0+4:1 4+2:1 8+3:9"))
	p.Set(nil)
	if !slices.Equal(l, parts(t, toldParts)) {
		t.Error(l)
	}
}

// TestCostChangesNothing: what is handed in stays as it is, spare room included, which isn't asked either.
func TestCostChangesNothing(t *testing.T) {
	l, all := spacious(hints(t, told), strange)
	x, allParts := spacious(parts(t, toldParts), strangePart)
	was, wasParts := slices.Clone(all), slices.Clone(allParts)
	for range 3 {
		checkCost(t, l, x, [4]int{1, 2, 5, 10}, 12*(2*(1+4+5)+5*2+2*(5+20)), 12)
	}
	if !slices.Equal(all, was) || !slices.Equal(allParts, wasParts) {
		t.Errorf("%v and %v are %v and %v now", was, wasParts, all, allParts)
	}
	p := planOf(t, 12, [3]int{3, 2, 2}, l)
	checkCost(t, l, p.Parts(), [4]int{1, 2, 5, 10}, 12*80, 12)
	checkTold(t, p, told, toldParts)
}

// TestAskingChangesNothing: whatever is asked, however often.
func TestAskingChangesNothing(t *testing.T) {
	p := newPlan(t, 12, [3]int{3, 2, 2}, told)
	for range 3 {
		checkTold(t, p, told, toldParts)
	}
}
