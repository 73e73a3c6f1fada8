package list_test

import (
	"testing"

	"gradine/api"
	"gradine/list"
)

// TestNoSuchBlock: nothing is answered, and nothing changed.
func TestNoSuchBlock(t *testing.T) {
	for _, b := range wrongNumbers(blocks) {
		s := holding(t, "0 1 63", "", "2")
		for i := range 3 {
			checkFront(t, s, i, b, api.ErrRange)
			checkBack(t, s, i, b, api.ErrRange)
		}
		checkRemove(t, s, b, api.ErrRange)
		checkOf(t, s, b, -1)
		for _, other := range []int{0, 1, 2, 5, 63, b} {
			if s.Ahead(b, other) || s.Ahead(other, b) {
				t.Errorf("%d and %d are in one list", b, other)
			}
		}
		checkLists(t, s, "0 1 63", "", "2")
	}
}

// TestNoSuchList: nothing is answered, and nothing changed; a block that is in another list stays there.
func TestNoSuchList(t *testing.T) {
	for _, lists := range [][]string{{"0 1 63"}, {"0 1 63", ""}, {"0", "63 1", "2"}} {
		s := holding(t, lists...)
		for _, i := range append(wrongNumbers(len(lists)), 39, 40, 41, 63, 64) {
			for _, b := range []int{0, 1, 2, 5, 62, 63} {
				checkFront(t, s, i, b, api.ErrRange)
				checkBack(t, s, i, b, api.ErrRange)
			}
			checkFront(t, s, i, blocks, api.ErrRange)
			checkBack(t, s, i, -1, api.ErrRange)
			checkEnds(t, s, i, nil)
			if l := s.All(i); len(l) != 0 || s.Len(i) != 0 {
				t.Errorf("list %d: %v, %d blocks", i, l, s.Len(i))
			}
		}
		checkLists(t, s, lists...)
	}
}

// TestBeyondMost: of a space that holds as many lists as there may be, no number has one more.
func TestBeyondMost(t *testing.T) {
	s := list.New(most)
	checkBack(t, s, most-1, 63, api.OK)
	for _, i := range wrongNumbers(most) {
		checkFront(t, s, i, 63, api.ErrRange)
		checkBack(t, s, i, 63, api.ErrRange)
		checkEnds(t, s, i, nil)
		if s.Len(i) != 0 {
			t.Errorf("%d in list %d", s.Len(i), i)
		}
	}
	checkOf(t, s, 63, most-1)
}

// TestRemoveOfNone: of a block that was in no list, or isn't any more, and nothing is changed.
func TestRemoveOfNone(t *testing.T) {
	s := holding(t, "1 2", "3", "")
	checkRemove(t, s, 2, api.OK)
	for _, b := range []int{0, 2, 4, 62, 63} {
		checkRemove(t, s, b, api.ErrNone)
		checkOf(t, s, b, -1)
	}
	checkLists(t, s, "1", "3", "")
}

// TestAheadOfItself: a block is nearer than none that is itself, and than none that is gone or in another list.
func TestAheadOfItself(t *testing.T) {
	s := holding(t, "1 2 3", "4 5")
	for _, b := range []int{0, 1, 2, 3, 4, 5, 6} {
		if s.Ahead(b, b) {
			t.Errorf("%d is ahead of itself", b)
		}
	}
	checkRemove(t, s, 2, api.OK)
	checkRemove(t, s, 5, api.OK)
	for _, p := range [][2]int{{1, 2}, {2, 3}, {2, 1}, {3, 2}, {4, 5}, {5, 4}, {1, 4}, {4, 1}, {3, 4}, {2, 5}} {
		if s.Ahead(p[0], p[1]) {
			t.Errorf("%d is ahead of %d", p[0], p[1])
		}
	}
	if !s.Ahead(1, 3) {
		t.Error("1 isn't ahead of 3")
	}
}

// TestNil: of no space nothing is told, and nothing done.
func TestNil(t *testing.T) {
	var s *list.Space
	numbers := append(wrongNumbers(blocks), 0, 1, 5, most, 63)
	for _, b := range numbers {
		checkRemove(t, s, b, api.ErrNil)
		checkOf(t, s, b, -1)
		for _, i := range numbers {
			checkFront(t, s, i, b, api.ErrNil)
			checkBack(t, s, i, b, api.ErrNil)
			if s.Ahead(i, b) {
				t.Errorf("Ahead(%d, %d)", i, b)
			}
		}
	}
	for _, i := range numbers {
		checkEnds(t, s, i, nil)
		if l := s.All(i); len(l) != 0 || s.Len(i) != 0 {
			t.Errorf("list %d: %v, %d blocks", i, l, s.Len(i))
		}
	}
}
