package part_test

import (
	"math/rand"
	"slices"
	"testing"

	"gradine/api"
	"gradine/part"
)

// act is something that is done to a cache.
type act struct {
	word  string
	block int
}

// answer is what is answered to it.
type answer struct {
	was, gone bool
	victim    int
	e         api.Errno
}

// book is a cache by the chapter's words: of each range its blocks, written out.
type book struct {
	hints []api.Hint
	parts []int   // by the hint's place
	all   [][]int // likewise
}

// newBook has its parts of the tier counted block by block, the densest first.
func newBook(l []api.Hint, caps [3]int, tier int) *book {
	k := &book{l, make([]int, len(l)), make([][]int, len(l))}
	var blocks []int // of each the place of its hint
	for i, h := range l {
		blocks = append(blocks, slices.Repeat([]int{i}, h.Size)...)
	}
	slices.SortStableFunc(blocks, func(a, b int) int { return l[b].Often*l[a].Size - l[a].Often*l[b].Size })
	ahead := 0
	for _, c := range caps[:tier-1] {
		ahead += c
	}
	for at, i := range blocks {
		if at >= ahead && at < ahead+caps[tier-1] {
			k.parts[i]++
		}
	}
	return k
}

// place is that of the hint whose range the block is in, where it has a part; below 0, if there is none.
func (k *book) place(block int) int {
	i := slices.IndexFunc(k.hints, func(h api.Hint) bool { return block >= h.From && block < h.From+h.Size })
	if i < 0 || k.parts[i] == 0 {
		return -1
	}
	return i
}

// without has the block be there no more, and tells whether it was.
func (k *book) without(block int) bool {
	for i, l := range k.all {
		if x := slices.Index(l, block); x >= 0 {
			k.all[i] = slices.Concat(l[:x], l[x+1:])
			return true
		}
	}
	return false
}

// answer is what the book answers.
func (k *book) answer(a act) answer {
	i := k.place(a.block)
	switch {
	case a.word == "add" && i < 0:
		return answer{e: api.ErrNone}
	case a.word == "remove":
		return answer{was: k.without(a.block)}
	}
	was := k.without(a.block)
	if a.word == "use" && !was {
		return answer{}
	}
	x := answer{was: was && a.word == "use"}
	if n := len(k.all[i]); !was && n == k.parts[i] {
		at := n - 1
		if k.hints[i].Loop {
			at = 0
		}
		x.victim, x.gone = k.all[i][at], true
		k.without(x.victim)
	}
	k.all[i] = slices.Concat([]int{a.block}, k.all[i])
	return x
}

// check tells where the cache is otherwise than the book.
func (k *book) check(t *testing.T, c *part.Cache) {
	t.Helper()
	checkBlocks(t, c, slices.Concat(k.all...))
	var takes []int
	for b := range maxBlocks {
		if k.place(b) >= 0 {
			takes = append(takes, b)
		}
	}
	checkTakes(t, c, takes)
}

// do is what a cache answers.
func do(c *part.Cache, a act) answer {
	var x answer
	switch a.word {
	case "add":
		x.victim, x.gone, x.e = c.Add(a.block)
	case "use":
		x.was = c.Use(a.block)
	case "remove":
		x.was = c.Remove(a.block)
	}
	return x
}

// anyHints are up to 8 that are right, in any order, with blocks between that are in none.
func anyHints(r *rand.Rand) []api.Hint {
	var l []api.Hint
	most := 1 + r.Intn(maxBlocks)
	for from := r.Intn(3); from < maxBlocks && len(l) < 8; {
		h := api.Hint{From: from, Size: min(1+r.Intn(most), maxBlocks-from), Often: r.Intn(20), Loop: r.Intn(2) == 0}
		l = append(l, h)
		from += h.Size + max(0, r.Intn(4)-1)
	}
	r.Shuffle(len(l), func(i, j int) { l[i], l[j] = l[j], l[i] })
	return l
}

func anyCaps(r *rand.Rand) [3]int {
	most := 1 + r.Intn(maxCapacity)
	return [3]int{1 + r.Intn(most), 1 + r.Intn(most), 1 + r.Intn(most)}
}

// anyAct is one that is mostly about blocks that there are.
func anyAct(r *rand.Rand) act {
	a := act{[]string{"add", "add", "add", "use", "use", "remove"}[r.Intn(6)], r.Intn(maxBlocks)}
	if r.Intn(25) == 0 {
		a.block = r.Intn(80) - 8
	}
	return a
}

// TestByTheBook: whatever is done, in any order, is answered as the chapter's words say.
func TestByTheBook(t *testing.T) {
	for seed := range int64(200) {
		r := rand.New(rand.NewSource(seed))
		l, caps, tier := anyHints(r), anyCaps(r), 1+int(seed)%tiers
		c, k := cacheOf(t, planOf(t, l, caps), tier), newBook(l, caps, tier)
		k.check(t, c)
		for i := range 150 {
			a := anyAct(r)
			if got, want := do(c, a), k.answer(a); got != want {
				t.Fatalf("seed %d, %d, %v: %v, not %v", seed, i, a, got, want)
			}
			if k.check(t, c); t.Failed() {
				t.Fatalf("seed %d, %d, behind %v", seed, i, a)
			}
		}
	}
}

// TestEachShortTale: a few acts, in each order, up to a depth, on two ranges of each kind.
func TestEachShortTale(t *testing.T) {
	for _, text := range []string{"0+3:1", "0+3:1o", "2+1:1 0+2:1o", "0+2:1o 2+1:9o 3+1:0"} {
		for capacity := 1; capacity <= 2; capacity++ {
			l, caps := hints(t, text), [3]int{capacity, 1, 1}
			p := planOf(t, l, caps)
			eachTale(4, func(tale []act) {
				c, k := cacheOf(t, p, 1), newBook(l, caps, 1)
				for _, a := range tale {
					if got, want := do(c, a), k.answer(a); got != want {
						t.Fatalf("%q, capacity %d, %v: %v, not %v", text, capacity, tale, got, want)
					}
				}
				if got, want := c.All(), slices.Concat(k.all...); !slices.Equal(got, want) {
					t.Fatalf("%q, capacity %d, %v: %v, not %v", text, capacity, tale, got, want)
				}
			})
		}
	}
}

// eachTale has f called with each one of so many acts.
func eachTale(depth int, f func([]act)) {
	var tale []act
	var goOn func(depth int)
	goOn = func(depth int) {
		if depth == 0 {
			f(tale)
			return
		}
		for b := range 4 {
			for _, word := range []string{"add", "use", "remove"} {
				tale = append(tale, act{word, b})
				goOn(depth - 1)
				tale = tale[:len(tale)-1]
			}
		}
	}
	goOn(depth)
}

// TestTheSameEachTime: two that have been through the same answer the same, whatever is done to others of their plan between.
func TestTheSameEachTime(t *testing.T) {
	r := rand.New(rand.NewSource(7))
	l, caps := hints(t, "20+6:2 4+8:5o 12+8:1"), [3]int{9, 8, 3}
	p := planOf(t, l, caps)
	a, b, other, low := cacheOf(t, p, 1), cacheOf(t, p, 1), cacheOf(t, p, 1), cacheOf(t, p, 2)
	k := newBook(l, caps, 1)
	for i := range 300 {
		what := anyAct(r)
		one := do(a, what)
		do(other, anyAct(r))
		do(low, anyAct(r))
		if two := do(b, what); one != two || one != k.answer(what) {
			t.Fatalf("%d, %v: %v, then %v", i, what, one, two)
		}
	}
	k.check(t, a)
	k.check(t, b)
}
