package lru_test

import (
	"testing"

	"gradine/api"
	"gradine/lru"
)

// TestNoSuchBlock: nothing is answered, and nothing changed, be it empty, full or neither.
func TestNoSuchBlock(t *testing.T) {
	for _, s := range someBlocks() {
		for _, capacity := range []int{len(numbersOf(t, s)), most} {
			l := holding(t, capacity, s)
			for _, b := range noBlocks() {
				checkNoAdd(t, l, b, api.ErrRange)
				checkUse(t, l, b, false)
				checkRemove(t, l, b, false)
				if l.Has(b) {
					t.Errorf("Has(%d)", b)
				}
				checkAll(t, l, s)
			}
		}
	}
}

// TestNotThere: what isn't there isn't used, and not removed; it isn't there for having been asked for.
func TestNotThere(t *testing.T) {
	for _, s := range someBlocks() {
		l := holding(t, most, s)
		for _, b := range []int{2, 3, 4, 40, 62} {
			checkUse(t, l, b, false)
			checkRemove(t, l, b, false)
			checkUse(t, l, b, false)
			checkAll(t, l, s)
		}
	}
}

// TestGone: a block that went isn't there, and comes like any other one.
func TestGone(t *testing.T) {
	l := holding(t, 2, "1 2")
	checkAdd(t, l, 3, 2)
	checkUse(t, l, 2, false)
	checkRemove(t, l, 2, false)
	checkAll(t, l, "3 1")
	checkAdd(t, l, 2, 1)
	checkAll(t, l, "2 3")
}

// TestNil: of no LRU nothing is told, and nothing done.
func TestNil(t *testing.T) {
	var l *lru.LRU
	for _, b := range append(noBlocks(), 0, 1, 5, most, 63) {
		checkNoAdd(t, l, b, api.ErrNil)
		checkUse(t, l, b, false)
		checkRemove(t, l, b, false)
		if l.Has(b) {
			t.Errorf("Has(%d)", b)
		}
	}
	checkAll(t, l, "")
}
