package uni_test

import (
	"slices"
	"testing"

	"gradine/api"
)

// spoil writes all over l and its spare room.
func spoil[T any](l []T, with T) {
	l = l[:cap(l)]
	for i := range l {
		l[i] = with
	}
}

// TestBlocksAreNew: who changes what All answers, spare room included, changes neither the stack nor another answer.
func TestBlocksAreNew(t *testing.T) {
	for s, want := range some(t) {
		one, other := s.All(), s.All()
		again := slices.Clone(one)
		spoil(one, 77)
		if !slices.Equal(other, again) {
			t.Errorf("%q: the other answer is %v", want, other)
		}
		checkStack(t, s, want)
		spoil(other, 77)
		checkStack(t, s, want)
	}
}

// TestMovesAreNew: who changes what Use answers, spare room included, changes neither the stack nor another answer.
func TestMovesAreNew(t *testing.T) {
	s := having(t, 1, 1, 1, "1 2 3 4 5")
	_, one, _ := s.Use(5)
	checkStack(t, s, "5:1 4:4 3:3 2:2")
	_, other, _ := s.Use(4)
	checkStack(t, s, "4:2 5:1 3:3")
	if tell(one) != "1:1>2 1:2>3 1:3>4" {
		t.Error("what moved first is", tell(one), "later")
	}
	spoil(one, api.Move{Block: 77, From: 7, To: 7})
	if tell(other) != "2:2>3 2:3>4" {
		t.Error("the other answer is", tell(other))
	}
	checkStack(t, s, "4:2 5:1 3:3")
	spoil(other, api.Move{Block: 77, From: 7, To: 7})
	checkStack(t, s, "4:2 5:1 3:3")
	checkUse(t, s, 5, 1, "")
	checkUse(t, s, 3, 3, "")
	checkUse(t, s, 3, 1, "5:1>2 4:2>3")
	checkStack(t, s, "3:1 5:2 4:3")
}

// TestAnAnswerStays: what is done behind it doesn't change it.
func TestAnAnswerStays(t *testing.T) {
	s := having(t, 1, 1, 1, "1 2 3 4")
	all := s.All()
	checkUse(t, s, 4, 1, "1:1>2 1:2>3 1:3>4")
	checkDrop(t, s, 3, true)
	spoil(s.All(), 77)
	if !slices.Equal(all, []int{4, 3, 2, 1}) {
		t.Error(all)
	}
	checkStack(t, s, "4:1 2:2")
}

// TestAskingChangesNothing: whatever is asked, however often; it isn't to use.
func TestAskingChangesNothing(t *testing.T) {
	for s, want := range some(t) {
		for range 3 {
			for _, n := range append(noBlocks(), 0, 1, 2, 3, 4, 5, 6, 7, 63) {
				s.Level(n)
				s.Count(n)
				s.Yardstick(n)
				s.All()
			}
			checkStack(t, s, want)
		}
	}
}
