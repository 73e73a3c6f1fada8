package uni_test

import (
	"math/rand"
	"slices"
	"testing"

	"gradine/api"
	"gradine/uni"
)

// act is something that is done to a stack: a block is used, or dropped.
type act struct {
	drop  bool
	block int
}

// answer is what is answered to it.
type answer struct {
	was   bool
	level int
	moves string
	e     api.Errno
}

// book is a stack by the chapter's words: what it holds, from the top down, written out.
type book struct {
	caps [3]int
	all  []held
}

// at is where the block stands, from the top; below 0, if it is nowhere.
func (k *book) at(block int) int {
	return slices.IndexFunc(k.all, func(h held) bool { return h.block == block })
}

// yardstick is where the level's stands, from the top; below 0, if it has none.
func (k *book) yardstick(level int) int {
	for i := len(k.all) - 1; i >= 0; i-- {
		if k.all[i].level == level {
			return i
		}
	}
	return -1
}

// count is how many have the level.
func (k *book) count(level int) int {
	n := 0
	for _, h := range k.all {
		if h.level == level {
			n++
		}
	}
	return n
}

// newLevel is the chapter's step (1).
func (k *book) newLevel(block int) int {
	at := k.at(block)
	for level := 1; level < out; level++ {
		room := k.count(level) < k.caps[level-1]
		if y := k.yardstick(level); at < 0 && room || at >= 0 && y >= at {
			return level
		}
	}
	return out
}

// tooMany is the least level from that one on that has more blocks than its capacity; out, if none has.
func (k *book) tooMany(from int) int {
	for level := from; level < out; level++ {
		if k.count(level) > k.caps[level-1] {
			return level
		}
	}
	return out
}

// take has the block be nowhere.
func (k *book) take(block int) {
	k.all = slices.DeleteFunc(k.all, func(h held) bool { return h.block == block })
}

// dropOut is step (4).
func (k *book) dropOut() {
	for n := len(k.all); n > 0 && k.all[n-1].level == out; n-- {
		k.all = k.all[:n-1]
	}
}

// answer is what the book answers.
func (k *book) answer(a act) answer {
	was := k.at(a.block) >= 0
	switch {
	case a.drop:
		k.take(a.block)
		k.dropOut()
		return answer{was: was}
	case a.block < 0 || a.block >= blocks:
		return answer{e: api.ErrRange}
	}
	x := answer{level: k.newLevel(a.block)}
	k.take(a.block)
	k.all = slices.Insert(k.all, 0, held{a.block, x.level})
	var moves []api.Move
	for level := k.tooMany(x.level); level < out; level = k.tooMany(x.level) {
		h := &k.all[k.yardstick(level)]
		h.level++
		moves = append(moves, api.Move{Block: h.block, From: level, To: level + 1})
	}
	k.dropOut()
	x.moves = tell(moves)
	return x
}

// do is what a stack answers.
func do(s *uni.Stack, a act) answer {
	if a.drop {
		return answer{was: s.Drop(a.block)}
	}
	level, moves, e := s.Use(a.block)
	return answer{level: level, moves: tell(moves), e: e}
}

// anyAct is one that is mostly about blocks that there are.
func anyAct(r *rand.Rand, blocks int) act {
	a := act{r.Intn(8) == 0, r.Intn(blocks)}
	if r.Intn(25) == 0 {
		a.block = r.Intn(70) - 3
	}
	return a
}

// checkWords tells where the stack isn't as the chapter says that each one is, or used another level than it has.
func checkWords(t *testing.T, s *uni.Stack, caps [3]int, a act, x answer) {
	t.Helper()
	for i, c := range caps {
		if n := s.Count(i + 1); n > c {
			t.Errorf("level %d has %d of %d blocks", i+1, n, c)
		}
	}
	all := s.All()
	if n := len(all); n > 0 && s.Level(all[n-1]) == out {
		t.Errorf("%d is out, and the lowest of %v", all[n-1], all)
	}
	if !a.drop && x.e == api.OK && (len(all) == 0 || all[0] != a.block || s.Level(a.block) != x.level) {
		t.Errorf("%d isn't on top of %v, or not with level %d", a.block, all, x.level)
	}
}

// TestByTheBook: whatever is done, in any order, is answered as the chapter's words say.
func TestByTheBook(t *testing.T) {
	for seed := range int64(120) {
		r := rand.New(rand.NewSource(seed))
		most := 1 + int(seed)%most
		caps, blocks := [3]int{1 + r.Intn(most), 1 + r.Intn(most), 1 + r.Intn(most)}, 1+r.Intn(64)
		s, k := newStack(t, caps[0], caps[1], caps[2]), &book{caps: caps}
		for i := range 300 {
			a := anyAct(r, blocks)
			got, want := do(s, a), k.answer(a)
			if got != want {
				t.Fatalf("seed %d, %d, %v: %v, not %v", seed, i, a, got, want)
			}
			checkWords(t, s, caps, a, got)
			if checkHeld(t, s, k.all); t.Failed() {
				t.Fatalf("seed %d, %d, behind %v", seed, i, a)
			}
		}
	}
}

// allCaps are all capacities up to two.
func allCaps() [][3]int {
	var l [][3]int
	for i := range 8 {
		l = append(l, [3]int{1 + i&1, 1 + i>>1&1, 1 + i>>2})
	}
	return l
}

// TestEachShortTale: a few acts, in each order, up to a depth, on a stack that holds some blocks.
func TestEachShortTale(t *testing.T) {
	acts := []act{{true, 0}, {true, 2}, {true, 4}}
	for b := range 6 {
		acts = append(acts, act{false, b})
	}
	var tale []act
	var goOn func(caps [3]int, depth int)
	goOn = func(caps [3]int, depth int) {
		s, k := newStack(t, caps[0], caps[1], caps[2]), &book{caps: caps}
		for _, a := range tale {
			if got, want := do(s, a), k.answer(a); got != want {
				t.Fatalf("capacities %v, %v: %v, not %v", caps, tale, got, want)
			}
		}
		if checkHeld(t, s, k.all); t.Failed() {
			t.Fatalf("capacities %v, %v", caps, tale)
		}
		if depth == 0 {
			return
		}
		for _, a := range acts {
			tale = append(tale, a)
			goOn(caps, depth-1)
			tale = tale[:len(tale)-1]
		}
	}
	for _, caps := range allCaps() {
		tale = nil
		for b := range 5 {
			tale = append(tale, act{false, b})
		}
		goOn(caps, 4)
	}
}

// TestTheSameEachTime: two that have been through the same answer the same, whatever is done to others between.
func TestTheSameEachTime(t *testing.T) {
	r := rand.New(rand.NewSource(7))
	a, b, other := newStack(t, 2, 1, 2), newStack(t, 2, 1, 2), newStack(t, 2, 1, 2)
	k := &book{caps: [3]int{2, 1, 2}}
	for i := range 300 {
		what := anyAct(r, 9)
		one := do(a, what)
		do(other, anyAct(r, 9))
		if two := do(b, what); one != two || one != k.answer(what) {
			t.Fatalf("%d, %v: %v, then %v", i, what, one, two)
		}
	}
	checkHeld(t, a, k.all)
	checkHeld(t, b, k.all)
}
