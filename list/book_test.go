package list_test

import (
	"fmt"
	"math/rand"
	"slices"
	"testing"

	"gradine/api"
	"gradine/list"
)

// act is something that is done to a space.
type act struct {
	word     string
	i, block int
}

// book is a space by the chapter's words: its lists, written out.
type book struct{ lists [][]int }

// without has the block be in no list any more, and tells whether it was in one.
func (k *book) without(block int) bool {
	for i, l := range k.lists {
		if x := slices.Index(l, block); x >= 0 {
			k.lists[i] = slices.Concat(l[:x], l[x+1:])
			return true
		}
	}
	return false
}

// answer is what the book answers.
func (k *book) answer(a act) api.Errno {
	isBlock, isList := a.block >= 0 && a.block < blocks, a.i >= 0 && a.i < len(k.lists)
	switch {
	case !isBlock || a.word != "remove" && !isList:
		return api.ErrRange
	case !k.without(a.block) && a.word == "remove":
		return api.ErrNone
	case a.word == "front":
		k.lists[a.i] = slices.Concat([]int{a.block}, k.lists[a.i])
	case a.word == "back":
		k.lists[a.i] = slices.Concat(k.lists[a.i], []int{a.block})
	}
	return api.OK
}

// do is what a space answers.
func do(s *list.Space, a act) api.Errno {
	switch a.word {
	case "front":
		return s.Front(a.i, a.block)
	case "back":
		return s.Back(a.i, a.block)
	}
	return s.Remove(a.block)
}

// anyAct is one that is mostly about lists and blocks that there are.
func anyAct(r *rand.Rand, lists, blocks int) act {
	a := act{word: []string{"front", "front", "back", "back", "remove"}[r.Intn(5)], i: r.Intn(lists), block: r.Intn(blocks)}
	if r.Intn(25) == 0 {
		a.i = r.Intn(lists+6) - 3
	}
	if r.Intn(25) == 0 {
		a.block = r.Intn(70) - 3
	}
	return a
}

// TestByTheBook: whatever is done, in any order, is answered as the chapter's words say.
func TestByTheBook(t *testing.T) {
	for seed := range int64(60) {
		r := rand.New(rand.NewSource(seed))
		lists, blocks := 1+r.Intn(5), 1+r.Intn(64)
		if seed%10 == 0 {
			lists = most
		}
		s, k := list.New(lists), &book{make([][]int, lists)}
		for i := range 200 {
			a := anyAct(r, lists, blocks)
			if got, want := do(s, a), k.answer(a); got != want {
				t.Fatalf("seed %d, %d, %v: %d, not %d", seed, i, a, int(got), int(want))
			}
			if checkSpace(t, s, k.lists); t.Failed() {
				t.Fatalf("seed %d, %d, behind %v", seed, i, a)
			}
		}
	}
}

// TestEachShortTale: a few acts, in each order, up to a depth.
func TestEachShortTale(t *testing.T) {
	var acts []act
	for _, b := range []int{0, 1, 63} {
		acts = append(acts, act{"remove", 0, b})
		for i := range 2 {
			acts = append(acts, act{"front", i, b}, act{"back", i, b})
		}
	}
	var tale []act
	var goOn func(depth int)
	goOn = func(depth int) {
		s, k := list.New(2), &book{make([][]int, 2)}
		for _, a := range tale {
			if got, want := do(s, a), k.answer(a); got != want {
				t.Fatalf("%v: %d, not %d", tale, int(got), int(want))
			}
		}
		if got := fmt.Sprint(s.All(0), s.All(1)); got != fmt.Sprint(k.lists[0], k.lists[1]) {
			t.Fatalf("%v: %s, not %v", tale, got, k.lists)
		}
		if depth == 0 {
			return
		}
		for _, a := range acts {
			tale = append(tale, a)
			goOn(depth - 1)
			tale = tale[:len(tale)-1]
		}
	}
	goOn(4)
}

// TestTheSameEachTime: two spaces that have been through the same answer the same, whatever is done to others between.
func TestTheSameEachTime(t *testing.T) {
	r := rand.New(rand.NewSource(7))
	a, b, other := list.New(3), list.New(3), list.New(3)
	k := &book{make([][]int, 3)}
	for i := range 300 {
		what := anyAct(r, 3, 20)
		first := do(a, what)
		do(other, anyAct(r, 3, 20))
		if second := do(b, what); first != second || first != k.answer(what) {
			t.Fatalf("%d, %v: %d, then %d", i, what, int(first), int(second))
		}
	}
	checkSpace(t, a, k.lists)
	checkSpace(t, b, k.lists)
}
