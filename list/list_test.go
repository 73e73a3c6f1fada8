package list_test

import (
	"math"
	"slices"
	"strconv"
	"strings"
	"testing"

	"gradine/api"
	"gradine/list"
)

const (
	blocks = 64
	most   = 40 // lists of a space
)

// wrongNumbers are those of nothing, where there are n from 0 on.
func wrongNumbers(n int) []int {
	return []int{-1, -2, -n, -n - 1, n, n + 1, 2 * n, blocks + most, 1 << 8, 1 << 32, 1<<32 + 1, math.MaxInt, math.MinInt}
}

// numbersOf cuts a text at blanks.
func numbersOf(t *testing.T, s string) []int {
	t.Helper()
	var l []int
	for _, w := range strings.Fields(s) {
		n, e := strconv.Atoi(w)
		if e != nil {
			t.Fatal(e)
		}
		l = append(l, n)
	}
	return l
}

// holding is a space whose lists hold these blocks.
func holding(t *testing.T, lists ...string) *list.Space {
	t.Helper()
	s := list.New(len(lists))
	for i, blocks := range lists {
		for _, b := range numbersOf(t, blocks) {
			checkBack(t, s, i, b, api.OK)
		}
	}
	return s
}

func checkFront(t *testing.T, s *list.Space, i, block int, want api.Errno) {
	t.Helper()
	if e := s.Front(i, block); e != want {
		t.Errorf("Front(%d, %d): %d, not %d", i, block, int(e), int(want))
	}
}

func checkBack(t *testing.T, s *list.Space, i, block int, want api.Errno) {
	t.Helper()
	if e := s.Back(i, block); e != want {
		t.Errorf("Back(%d, %d): %d, not %d", i, block, int(e), int(want))
	}
}

func checkRemove(t *testing.T, s *list.Space, block int, want api.Errno) {
	t.Helper()
	if e := s.Remove(block); e != want {
		t.Errorf("Remove(%d): %d, not %d", block, int(e), int(want))
	}
}

// checkOf tells where the block is in another list; want below 0: in none.
func checkOf(t *testing.T, s *list.Space, block, want int) {
	t.Helper()
	is := want >= 0
	if got, ok := s.Of(block); got != max(want, 0) || ok != is {
		t.Errorf("Of(%d): %d %v, not %d", block, got, ok, want)
	}
}

// checkEnds tells where the list begins or ends otherwise than l.
func checkEnds(t *testing.T, s *list.Space, i int, l []int) {
	t.Helper()
	is, first, last := len(l) > 0, 0, 0
	if is {
		first, last = l[0], l[len(l)-1]
	}
	if got, ok := s.First(i); got != first || ok != is {
		t.Errorf("First(%d): %d %v, of %v", i, got, ok, l)
	}
	if got, ok := s.Last(i); got != last || ok != is {
		t.Errorf("Last(%d): %d %v, of %v", i, got, ok, l)
	}
}

// checkAhead tells where Ahead answers otherwise than the lists, of any two blocks.
func checkAhead(t *testing.T, s *list.Space, lists [][]int) {
	t.Helper()
	var want [blocks][blocks]bool
	for _, l := range lists {
		for x, a := range l {
			for _, b := range l[x+1:] {
				want[a][b] = true
			}
		}
	}
	for a := range blocks {
		for b := range blocks {
			if s.Ahead(a, b) != want[a][b] {
				t.Errorf("Ahead(%d, %d): %v, of %v", a, b, !want[a][b], lists)
			}
		}
	}
}

// checkSpace tells where anything that can be asked of the space is otherwise than that of these lists, of which it has no more.
func checkSpace(t *testing.T, s *list.Space, lists [][]int) {
	t.Helper()
	in := map[int]int{}
	for i, l := range lists {
		if got := s.All(i); !slices.Equal(got, l) {
			t.Errorf("All(%d): %v, not %v", i, got, l)
		}
		if s.Len(i) != len(l) {
			t.Errorf("Len(%d): %d, of %v", i, s.Len(i), l)
		}
		checkEnds(t, s, i, l)
		for _, b := range l {
			in[b] = i + 1
		}
	}
	for b := range blocks {
		checkOf(t, s, b, in[b]-1)
	}
	checkAhead(t, s, lists)
}

// checkLists is checkSpace, of lists that are told as texts.
func checkLists(t *testing.T, s *list.Space, want ...string) {
	t.Helper()
	var lists [][]int
	for _, w := range want {
		lists = append(lists, numbersOf(t, w))
	}
	checkSpace(t, s, lists)
}

func TestNew(t *testing.T) {
	for lists, want := range map[int]int{
		1: 1, 2: 2, 3: 3, 20: 20, 39: 39, 40: 40,
		0: 1, -1: 1, -40: 1, math.MinInt: 1, 41: 40, 64: 40, 104: 40, 1 << 32: 40, math.MaxInt: 40,
	} {
		s := list.New(lists)
		if s == nil {
			t.Fatalf("New(%d): nil", lists)
		}
		checkSpace(t, s, make([][]int, want))
		for i := range want {
			checkFront(t, s, i, i, api.OK)
		}
		for i := want; i < want+70; i++ {
			checkFront(t, s, i, 1, api.ErrRange)
			checkBack(t, s, i, 1, api.ErrRange)
		}
	}
}

// TestExample is the chapter's.
func TestExample(t *testing.T) {
	s := list.New(1)
	checkFront(t, s, 0, 3, api.OK)
	checkFront(t, s, 0, 4, api.OK)
	checkBack(t, s, 0, 5, api.OK)
	checkLists(t, s, "4 3 5")
}

func TestFrontAndBack(t *testing.T) {
	s := list.New(2)
	checkFront(t, s, 1, 0, api.OK)
	checkLists(t, s, "", "0")
	checkFront(t, s, 1, 63, api.OK)
	checkLists(t, s, "", "63 0")
	checkBack(t, s, 1, 7, api.OK)
	checkLists(t, s, "", "63 0 7")
	checkBack(t, s, 0, 8, api.OK)
	checkLists(t, s, "8", "63 0 7")
	checkBack(t, s, 0, 9, api.OK)
	checkFront(t, s, 0, 10, api.OK)
	checkLists(t, s, "10 8 9", "63 0 7")
}

// someLists are of any length up to a few, of blocks that go neither up nor down.
func someLists() []string {
	return []string{"", "5", "5 0", "63 5 0", "9 63 5 0", "0 9 63 5 1"}
}

// without is the text of a list without one of its blocks.
func without(s, block string) string {
	l := strings.Fields(s)
	return strings.Join(slices.DeleteFunc(l, func(w string) bool { return w == block }), " ")
}

// TestMoveWithin: from each place of a list a block goes to its front, and to its back; the others stay in their order.
func TestMoveWithin(t *testing.T) {
	for _, blocks := range someLists() {
		for _, b := range strings.Fields(blocks) {
			n := numbersOf(t, b)[0]
			others := without(blocks, b)
			s := holding(t, "20 21", blocks, "30")
			checkFront(t, s, 1, n, api.OK)
			checkLists(t, s, "20 21", b+" "+others, "30")
			s = holding(t, "20 21", blocks, "30")
			checkBack(t, s, 1, n, api.OK)
			checkLists(t, s, "20 21", others+" "+b, "30")
		}
	}
}

// TestMoveToOther: from each place of a list a block goes to another one, of any length, where it stands alone then.
func TestMoveToOther(t *testing.T) {
	for _, blocks := range someLists() {
		for _, other := range []string{"", "20", "20 21", "20 21 22"} {
			for _, b := range strings.Fields(blocks) {
				n := numbersOf(t, b)[0]
				rest := without(blocks, b)
				s := holding(t, blocks, "30", other)
				checkFront(t, s, 2, n, api.OK)
				checkLists(t, s, rest, "30", b+" "+other)
				s = holding(t, other, blocks, "30")
				checkBack(t, s, 0, n, api.OK)
				checkLists(t, s, other+" "+b, rest, "30")
			}
		}
	}
}

// TestRemove: from each place of a list a block goes, once; it can be put again then.
func TestRemove(t *testing.T) {
	for _, blocks := range someLists() {
		for _, b := range strings.Fields(blocks) {
			n := numbersOf(t, b)[0]
			rest := without(blocks, b)
			s := holding(t, "20 21", blocks)
			checkRemove(t, s, n, api.OK)
			checkLists(t, s, "20 21", rest)
			checkRemove(t, s, n, api.ErrNone)
			checkLists(t, s, "20 21", rest)
			checkFront(t, s, 0, n, api.OK)
			checkLists(t, s, b+" 20 21", rest)
			checkRemove(t, s, n, api.OK)
			checkBack(t, s, 1, n, api.OK)
			checkLists(t, s, "20 21", rest+" "+b)
		}
	}
}

// TestRemoveAll: an emptied list is one like a new one.
func TestRemoveAll(t *testing.T) {
	s := holding(t, "1 2 3", "4")
	for _, b := range []int{2, 1, 3, 4} {
		checkRemove(t, s, b, api.OK)
	}
	checkLists(t, s, "", "")
	checkBack(t, s, 0, 2, api.OK)
	checkFront(t, s, 1, 1, api.OK)
	checkFront(t, s, 0, 3, api.OK)
	checkLists(t, s, "3 2", "1")
}

// TestAllBlocks: each is in one list, be it the same one or others, and goes from there.
func TestAllBlocks(t *testing.T) {
	s := list.New(most)
	lists := make([][]int, most)
	for b := range blocks {
		checkFront(t, s, most-1, b, api.OK)
		lists[most-1] = slices.Insert(lists[most-1], 0, b)
	}
	checkSpace(t, s, lists)
	lists[most-1] = nil
	for b := range blocks {
		checkBack(t, s, b%most, b, api.OK)
		lists[b%most] = append(lists[b%most], b)
	}
	checkSpace(t, s, lists)
	for b := range blocks {
		checkRemove(t, s, b, api.OK)
	}
	checkSpace(t, s, make([][]int, most))
}

// TestSpacesAreApart: what is in one is in no other one.
func TestSpacesAreApart(t *testing.T) {
	a, b := holding(t, "1 2", "3"), holding(t, "", "")
	checkLists(t, b, "", "")
	checkFront(t, b, 1, 2, api.OK)
	checkRemove(t, a, 1, api.OK)
	checkRemove(t, b, 1, api.ErrNone)
	checkLists(t, a, "2", "3")
	checkLists(t, b, "", "2")
}
