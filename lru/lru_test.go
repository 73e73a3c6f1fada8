package lru_test

import (
	"math"
	"slices"
	"strconv"
	"strings"
	"testing"

	"gradine/api"
	"gradine/lru"
)

const (
	blocks = 64
	most   = 16 // blocks of an LRU
	stays  = -1 // where none goes
)

// noBlocks are numbers of no block.
func noBlocks() []int {
	return []int{-1, -2, -63, -64, 64, 65, 104, 128, 1 << 8, 1 << 32, 1<<32 + 1, math.MaxInt, math.MinInt}
}

// numbersOf cuts a text at blanks.
func numbersOf(t *testing.T, s string) []int {
	t.Helper()
	var l []int
	for _, w := range strings.Fields(s) {
		n, e := strconv.Atoi(w)
		if e != nil {
			t.Fatal(e)
		}
		l = append(l, n)
	}
	return l
}

// holding is an LRU of these blocks, the one that was used last first.
func holding(t *testing.T, capacity int, s string) *lru.LRU {
	t.Helper()
	l := lru.New(capacity)
	for _, b := range slices.Backward(numbersOf(t, s)) {
		checkAdd(t, l, b, stays)
	}
	return l
}

// checkAdd tells where Add has another block go than want.
func checkAdd(t *testing.T, l *lru.LRU, block, want int) {
	t.Helper()
	if v, gone, e := l.Add(block); v != max(want, 0) || gone != (want != stays) || e != api.OK {
		t.Errorf("Add(%d): %d %v %d, not %d", block, v, gone, int(e), want)
	}
}

// checkNoAdd tells where Add answers another error, or anything beside it.
func checkNoAdd(t *testing.T, l *lru.LRU, block int, want api.Errno) {
	t.Helper()
	if v, gone, e := l.Add(block); v != 0 || gone || e != want {
		t.Errorf("Add(%d): %d %v %d, not %d", block, v, gone, int(e), int(want))
	}
}

func checkUse(t *testing.T, l *lru.LRU, block int, want bool) {
	t.Helper()
	if l.Use(block) != want {
		t.Errorf("Use(%d): %v", block, !want)
	}
}

func checkRemove(t *testing.T, l *lru.LRU, block int, want bool) {
	t.Helper()
	if l.Remove(block) != want {
		t.Errorf("Remove(%d): %v", block, !want)
	}
}

// checkBlocks tells where anything that can be asked of the LRU is otherwise than that of these blocks.
func checkBlocks(t *testing.T, l *lru.LRU, want []int) {
	t.Helper()
	if got := l.All(); !slices.Equal(got, want) {
		t.Errorf("All: %v, not %v", got, want)
	}
	if l.Len() != len(want) {
		t.Errorf("Len: %d, of %v", l.Len(), want)
	}
	for b := range blocks {
		if l.Has(b) != slices.Contains(want, b) {
			t.Errorf("Has(%d): %v, of %v", b, l.Has(b), want)
		}
	}
}

// checkAll is checkBlocks, of blocks that are told as a text.
func checkAll(t *testing.T, l *lru.LRU, want string) {
	t.Helper()
	checkBlocks(t, l, numbersOf(t, want))
}

// upTo answers the numbers ahead of n, the greatest first.
func upTo(n int) []int {
	var l []int
	for i := range n {
		l = append([]int{i}, l...)
	}
	return l
}

// TestNew: it is empty, and the last one goes just where it is full.
func TestNew(t *testing.T) {
	for capacity, want := range map[int]int{
		1: 1, 2: 2, 3: 3, 8: 8, 15: 15, 16: 16,
		0: 1, -1: 1, -16: 1, math.MinInt: 1, 17: 16, 40: 16, 64: 16, 1 << 32: 16, 1<<32 + 1: 16, math.MaxInt: 16,
	} {
		l := lru.New(capacity)
		if l == nil {
			t.Fatalf("New(%d): nil", capacity)
		}
		checkBlocks(t, l, nil)
		for b := range want {
			checkAdd(t, l, b, stays)
		}
		checkBlocks(t, l, upTo(want))
		for b := want; b < blocks; b++ {
			checkAdd(t, l, b, b-want)
			checkBlocks(t, l, upTo(b + 1)[:want])
		}
	}
}

// TestExample is the chapter's.
func TestExample(t *testing.T) {
	l := lru.New(2)
	checkAdd(t, l, 1, stays)
	checkAdd(t, l, 2, stays)
	checkUse(t, l, 1, true)
	checkAdd(t, l, 3, 2)
	checkAll(t, l, "3 1")
}

// someBlocks are of each length up to a few, in no order.
func someBlocks() []string {
	return []string{"", "5", "5 0", "63 5 0", "9 63 5 0", "0 9 63 5 1"}
}

// first is the text of blocks with one of them, or another one, ahead.
func first(s, block string) string {
	return strings.Join([]string{block, without(s, block)}, " ")
}

// without is the text of blocks without one of them.
func without(s, block string) string {
	l := strings.Fields(s)
	return strings.Join(slices.DeleteFunc(l, func(w string) bool { return w == block }), " ")
}

// TestWhatIsThere: from each place, of one that is full and of one that isn't, a block that is used, or added again, is first, and none goes.
func TestWhatIsThere(t *testing.T) {
	for _, s := range someBlocks() {
		for _, b := range strings.Fields(s) {
			n := numbersOf(t, b)[0]
			for _, room := range []int{0, 1, 5} {
				capacity := len(strings.Fields(s)) + room
				l := holding(t, capacity, s)
				checkUse(t, l, n, true)
				checkAll(t, l, first(s, b))
				l = holding(t, capacity, s)
				checkAdd(t, l, n, stays)
				checkAll(t, l, first(s, b))
			}
		}
	}
}

// TestRoom: where there is room none goes, where there is none the last one does.
func TestRoom(t *testing.T) {
	for _, s := range someBlocks()[1:] {
		now := strings.Fields(s)
		last := now[len(now)-1]
		for _, b := range []string{"2", "62"} {
			n := numbersOf(t, b)[0]
			l := holding(t, len(now)+1, s)
			checkAdd(t, l, n, stays)
			checkAll(t, l, first(s, b))
			l = holding(t, len(now), s)
			checkAdd(t, l, n, numbersOf(t, last)[0])
			checkAll(t, l, first(without(s, last), b))
		}
	}
}

// TestVictimZero: block 0 goes like any other one.
func TestVictimZero(t *testing.T) {
	l := holding(t, 2, "1 0")
	checkAdd(t, l, 2, 0)
	checkAll(t, l, "2 1")
	checkUse(t, l, 0, false)
	checkAdd(t, l, 0, 1)
	checkAll(t, l, "0 2")
}

// TestCapacityOne: each block that is added makes the one ahead of it go.
func TestCapacityOne(t *testing.T) {
	l := lru.New(1)
	checkAdd(t, l, 7, stays)
	checkAdd(t, l, 7, stays)
	checkUse(t, l, 7, true)
	checkAdd(t, l, 0, 7)
	checkAdd(t, l, 63, 0)
	checkAll(t, l, "63")
	checkRemove(t, l, 63, true)
	checkAll(t, l, "")
	checkAdd(t, l, 7, stays)
	checkAll(t, l, "7")
}

// TestRemove: from each place a block goes, once; there is room for another one then, or for itself.
func TestRemove(t *testing.T) {
	for _, s := range someBlocks() {
		for _, b := range strings.Fields(s) {
			n := numbersOf(t, b)[0]
			rest := without(s, b)
			for _, other := range []string{b, "30"} {
				l := holding(t, len(strings.Fields(s)), s)
				checkRemove(t, l, n, true)
				checkAll(t, l, rest)
				checkRemove(t, l, n, false)
				checkUse(t, l, n, false)
				checkAll(t, l, rest)
				checkAdd(t, l, numbersOf(t, other)[0], stays)
				checkAll(t, l, first(rest, other))
			}
		}
	}
}

// TestRemoveAll: an emptied one is like a new one.
func TestRemoveAll(t *testing.T) {
	l := holding(t, 3, "1 2 3")
	for _, b := range []int{2, 3, 1} {
		checkRemove(t, l, b, true)
	}
	checkAll(t, l, "")
	for _, b := range []int{3, 2, 4} {
		checkAdd(t, l, b, stays)
	}
	checkAdd(t, l, 1, 3)
	checkAll(t, l, "1 4 2")
}

// TestApart: what is in one LRU is in no other one.
func TestApart(t *testing.T) {
	a, b := holding(t, 2, "1 2"), lru.New(3)
	checkAll(t, b, "")
	checkUse(t, b, 1, false)
	checkAdd(t, b, 3, stays)
	checkAdd(t, b, 2, stays)
	checkRemove(t, b, 1, false)
	checkAdd(t, a, 4, 2)
	checkAll(t, a, "4 1")
	checkAll(t, b, "2 3")
}
