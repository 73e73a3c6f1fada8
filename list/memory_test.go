package list_test

import (
	"slices"
	"testing"

	"gradine/api"
)

// spoil writes all over l and its spare room.
func spoil(l []int) {
	l = l[:cap(l)]
	for i := range l {
		l[i] = 77
	}
}

// TestWhatIsAnsweredIsNew: who changes it, spare room included, changes neither a list nor another answer.
func TestWhatIsAnsweredIsNew(t *testing.T) {
	for _, blocks := range append(someLists(), "1 2 3 4 5 6 7 8 9 10 11 12 13 14 15 16 17") {
		s := holding(t, blocks, "40 41")
		first, second, other := s.All(0), s.All(0), s.All(1)
		spoil(first)
		if !slices.Equal(second, numbersOf(t, blocks)) || !slices.Equal(other, []int{40, 41}) {
			t.Errorf("%q: other answers are %v, %v", blocks, second, other)
		}
		checkLists(t, s, blocks, "40 41")
		spoil(second)
		spoil(other)
		checkLists(t, s, blocks, "40 41")
	}
}

// TestAnAnswerStays: what is done behind it doesn't change it.
func TestAnAnswerStays(t *testing.T) {
	s := holding(t, "1 2 3", "")
	l, empty := s.All(0), s.All(1)
	checkFront(t, s, 0, 3, api.OK)
	checkFront(t, s, 1, 1, api.OK)
	checkRemove(t, s, 2, api.OK)
	checkBack(t, s, 0, 4, api.OK)
	spoil(s.All(0))
	if !slices.Equal(l, []int{1, 2, 3}) || len(empty) != 0 {
		t.Errorf("%v, %v", l, empty)
	}
	checkLists(t, s, "3 4", "1")
}

// TestAskingChangesNothing: whatever is asked, however often.
func TestAskingChangesNothing(t *testing.T) {
	s := holding(t, "3 1 2", "", "63 0")
	for range 3 {
		checkLists(t, s, "3 1 2", "", "63 0")
		for _, n := range append(wrongNumbers(3), 0, 1, 2, 3) {
			s.Of(n)
			s.First(n)
			s.Last(n)
			s.All(n)
			s.Len(n)
			s.Ahead(n, 1)
			s.Ahead(3, n)
		}
	}
	checkLists(t, s, "3 1 2", "", "63 0")
}
