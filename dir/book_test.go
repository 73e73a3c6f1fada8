package dir_test

import (
	"math/rand"
	"testing"

	"gradine/api"
	"gradine/dir"
)

// act is something that is done to a directory.
type act struct {
	word string
	pair
}

// answer is what is answered to it.
type answer struct {
	e   api.Errno
	did bool
	n   int
}

// do is what a directory answers.
func do(d *dir.Dir, a act) answer {
	switch a.word {
	case "add":
		return answer{e: d.Add(a.client, a.block)}
	case "remove":
		return answer{did: d.Remove(a.client, a.block)}
	}
	return answer{n: d.Forget(a.client)}
}

// book is a directory by the chapter's words: its pairs, written out.
type book struct {
	clients, blocks int
	shared          pairs
}

// answer is what the book answers.
func (k *book) answer(a act) answer {
	switch isThere := a.client >= 0 && a.client < k.clients && a.block >= 0 && a.block < k.blocks; {
	case a.word == "add" && !isThere:
		return answer{e: api.ErrRange}
	case a.word == "add":
		k.shared[a.pair] = true
		return answer{}
	case a.word == "remove":
		did := k.shared[a.pair]
		delete(k.shared, a.pair)
		return answer{did: did}
	}
	return answer{n: k.forget(a.client)}
}

func (k *book) forget(client int) int {
	n := 0
	for p := range k.shared {
		if p.client == client {
			delete(k.shared, p)
			n++
		}
	}
	return n
}

// anyAct is one that is mostly about clients and blocks that there are.
func anyAct(r *rand.Rand, clients, blocks int) act {
	a := act{[]string{"add", "add", "add", "add", "remove", "remove"}[r.Intn(6)], pair{r.Intn(clients), r.Intn(blocks)}}
	if r.Intn(20) == 0 {
		a.word = "forget"
	}
	if r.Intn(15) == 0 {
		a.client = r.Intn(10) - 3
	}
	if r.Intn(15) == 0 {
		a.block = r.Intn(70) - 3
	}
	return a
}

// TestByTheBook: whatever is done, in any order, is answered as the chapter's words say.
func TestByTheBook(t *testing.T) {
	for seed := range int64(150) {
		r := rand.New(rand.NewSource(seed))
		clients, blocks := 1+r.Intn(mostClients), 1+r.Intn(mostBlocks)
		d, k := dir.New(clients, blocks), &book{clients, blocks, pairs{}}
		for i := range 150 {
			a := anyAct(r, clients, blocks)
			if got, want := do(d, a), k.answer(a); got != want {
				t.Fatalf("seed %d, %d, %v: %v, not %v", seed, i, a, got, want)
			}
			if checkDir(t, d, k.shared); t.Failed() {
				t.Fatalf("seed %d, %d, behind %v", seed, i, a)
			}
		}
	}
}

// actsOf are all that are about these clients and blocks, and those just beyond them.
func actsOf(clients, blocks int) []act {
	var l []act
	for c := -1; c <= clients; c++ {
		l = append(l, act{"forget", pair{client: c}})
		for b := -1; b <= blocks; b++ {
			l = append(l, act{"add", pair{c, b}}, act{"remove", pair{c, b}})
		}
	}
	return l
}

// TestEachStep: in each state of a directory about few clients and blocks, whatever is done.
func TestEachStep(t *testing.T) {
	for _, shape := range [][2]int{{1, 1}, {1, 5}, {2, 3}, {3, 2}, {4, 1}} {
		clients, blocks := shape[0], shape[1]
		for state := range 1 << (clients * blocks) {
			shared := pairs{}
			for p := range allPairs(clients, blocks) {
				if state>>(p.client*blocks+p.block)&1 > 0 {
					shared[p] = true
				}
			}
			for _, a := range actsOf(clients, blocks) {
				d, k := holding(t, clients, blocks, shared), &book{clients, blocks, shared.without(pair{-1, -1})}
				if got, want := do(d, a), k.answer(a); got != want {
					t.Fatalf("%v, %v, %v: %v, not %v", shape, shared, a, got, want)
				}
				if checkDir(t, d, k.shared); t.Failed() {
					t.Fatalf("%v, %v, behind %v", shape, shared, a)
				}
			}
		}
	}
}

// TestTheSameEachTime: two directories that have been through the same answer the same, whatever is done to others between.
func TestTheSameEachTime(t *testing.T) {
	r := rand.New(rand.NewSource(7))
	a, b, other := dir.New(3, 9), dir.New(3, 9), dir.New(3, 9)
	k := &book{3, 9, pairs{}}
	for i := range 500 {
		what := anyAct(r, 3, 9)
		one := do(a, what)
		do(other, anyAct(r, 3, 9))
		if two := do(b, what); one != two || one != k.answer(what) {
			t.Fatalf("%d, %v: %v, then %v", i, what, one, two)
		}
	}
	checkDir(t, a, k.shared)
	checkDir(t, b, k.shared)
}
