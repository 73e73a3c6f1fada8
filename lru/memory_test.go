package lru_test

import (
	"slices"
	"testing"
)

// spoil writes all over l and its spare room.
func spoil(l []int) {
	l = l[:cap(l)]
	for i := range l {
		l[i] = 77
	}
}

// TestWhatIsAnsweredIsNew: who changes it, spare room included, changes neither the LRU nor another answer.
func TestWhatIsAnsweredIsNew(t *testing.T) {
	for _, s := range append(someBlocks(), "1 2 3 4 5 6 7 8 9 10 11 12 13 14 15 16") {
		l := holding(t, most, s)
		one, other := l.All(), l.All()
		spoil(one)
		if !slices.Equal(other, numbersOf(t, s)) {
			t.Errorf("%q: the other answer is %v", s, other)
		}
		checkAll(t, l, s)
		spoil(other)
		checkAll(t, l, s)
	}
}

// TestAnAnswerStays: what is done behind it doesn't change it.
func TestAnAnswerStays(t *testing.T) {
	l := holding(t, 3, "1 2 3")
	all := l.All()
	checkUse(t, l, 3, true)
	checkAdd(t, l, 4, 2)
	checkRemove(t, l, 1, true)
	spoil(l.All())
	if !slices.Equal(all, []int{1, 2, 3}) {
		t.Error(all)
	}
	checkAll(t, l, "4 3")
}

// TestAskingChangesNothing: whatever is asked, however often; to have isn't to use.
func TestAskingChangesNothing(t *testing.T) {
	l := holding(t, 3, "63 0 5")
	for range 3 {
		for _, b := range append(noBlocks(), 5, 0, 63, 5, 1) {
			l.Has(b)
			l.All()
			l.Len()
		}
		checkAll(t, l, "63 0 5")
	}
	checkAdd(t, l, 1, 5)
	checkAll(t, l, "1 63 0")
}
