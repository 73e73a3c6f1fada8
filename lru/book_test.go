package lru_test

import (
	"math/rand"
	"slices"
	"testing"

	"gradine/api"
	"gradine/lru"
)

// act is something that is done to an LRU.
type act struct {
	word  string
	block int
}

// answer is what is answered to it.
type answer struct {
	was, gone bool
	victim    int
	e         api.Errno
}

// book is an LRU by the chapter's words: its blocks, written out.
type book struct {
	capacity int
	all      []int
}

// without has the block be there no more, and tells whether it was.
func (k *book) without(block int) bool {
	x := slices.Index(k.all, block)
	if x >= 0 {
		k.all = slices.Concat(k.all[:x], k.all[x+1:])
	}
	return x >= 0
}

// first has the block stand ahead of all others.
func (k *book) first(block int) {
	k.all = slices.Concat([]int{block}, k.all)
}

// answer is what the book answers.
func (k *book) answer(a act) answer {
	switch {
	case a.word == "add" && (a.block < 0 || a.block >= blocks):
		return answer{e: api.ErrRange}
	case a.word == "remove":
		return answer{was: k.without(a.block)}
	}
	was := k.without(a.block)
	if was || a.word == "add" {
		k.first(a.block)
	}
	if a.word == "use" {
		return answer{was: was}
	}
	if n := len(k.all) - 1; n == k.capacity {
		victim := k.all[n]
		k.all = k.all[:n]
		return answer{victim: victim, gone: true}
	}
	return answer{}
}

// do is what an LRU answers.
func do(l *lru.LRU, a act) answer {
	var x answer
	switch a.word {
	case "add":
		x.victim, x.gone, x.e = l.Add(a.block)
	case "use":
		x.was = l.Use(a.block)
	case "remove":
		x.was = l.Remove(a.block)
	}
	return x
}

// anyAct is one that is mostly about blocks that there are.
func anyAct(r *rand.Rand, blocks int) act {
	a := act{[]string{"add", "add", "add", "use", "use", "remove"}[r.Intn(6)], r.Intn(blocks)}
	if r.Intn(25) == 0 {
		a.block = r.Intn(70) - 3
	}
	return a
}

// TestByTheBook: whatever is done, in any order, is answered as the chapter's words say.
func TestByTheBook(t *testing.T) {
	for seed := range int64(80) {
		r := rand.New(rand.NewSource(seed))
		capacity, blocks := 1+int(seed)%most, 1+r.Intn(64)
		l, k := lru.New(capacity), &book{capacity: capacity}
		for i := range 300 {
			a := anyAct(r, blocks)
			if got, want := do(l, a), k.answer(a); got != want {
				t.Fatalf("seed %d, %d, %v: %v, not %v", seed, i, a, got, want)
			}
			if checkBlocks(t, l, k.all); t.Failed() {
				t.Fatalf("seed %d, %d, behind %v", seed, i, a)
			}
		}
	}
}

// TestEachShortTale: a few acts, in each order, up to a depth.
func TestEachShortTale(t *testing.T) {
	var acts []act
	for _, b := range []int{0, 1, 2, 63} {
		acts = append(acts, act{"add", b}, act{"use", b}, act{"remove", b})
	}
	var tale []act
	var goOn func(capacity, depth int)
	goOn = func(capacity, depth int) {
		l, k := lru.New(capacity), &book{capacity: capacity}
		for _, a := range tale {
			if got, want := do(l, a), k.answer(a); got != want {
				t.Fatalf("capacity %d, %v: %v, not %v", capacity, tale, got, want)
			}
		}
		if got := l.All(); !slices.Equal(got, k.all) {
			t.Fatalf("capacity %d, %v: %v, not %v", capacity, tale, got, k.all)
		}
		if depth == 0 {
			return
		}
		for _, a := range acts {
			tale = append(tale, a)
			goOn(capacity, depth-1)
			tale = tale[:len(tale)-1]
		}
	}
	for capacity := 1; capacity <= 3; capacity++ {
		goOn(capacity, 4)
	}
}

// TestTheSameEachTime: two that have been through the same answer the same, whatever is done to others between.
func TestTheSameEachTime(t *testing.T) {
	r := rand.New(rand.NewSource(7))
	a, b, other := lru.New(4), lru.New(4), lru.New(4)
	k := &book{capacity: 4}
	for i := range 300 {
		what := anyAct(r, 9)
		one := do(a, what)
		do(other, anyAct(r, 9))
		if two := do(b, what); one != two || one != k.answer(what) {
			t.Fatalf("%d, %v: %v, then %v", i, what, one, two)
		}
	}
	checkBlocks(t, a, k.all)
	checkBlocks(t, b, k.all)
}
