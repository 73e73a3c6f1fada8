package cache_test

import (
	"math/rand"
	"slices"
	"testing"

	"gradine/api"
	"gradine/cache"
	"gradine/karma"
	"gradine/lru"
	"gradine/mq"
	"gradine/part"
)

// act is something that is done to a cache.
type act struct {
	word  string
	block int
	level int
	data  string
}

// answer is what is answered to it: whether it was there, or was done; or what goes; with its bytes.
type answer struct {
	was, gone bool
	block     int
	data      string
	e         api.Errno
}

// do is what a cache answers.
func do(k *cache.Cache, a act) answer {
	f := api.Frame{Block: a.block, Data: []byte(a.data)}
	var x answer
	switch a.word {
	case "put":
		f, x.gone, x.e = k.Put(f, a.level)
		x.block, x.data = f.Block, string(f.Data)
	case "use":
		var b []byte
		b, x.was = k.Use(a.block)
		x.data = string(b)
	case "set":
		x.was = k.Set(f)
	case "drop":
		f, x.was = k.Drop(a.block)
		x.block, x.data = f.Block, string(f.Data)
	case "clear":
		k.Clear()
	}
	return x
}

// book is a cache by the chapter's words: the order that they name, and of each block of it its bytes.
type book struct {
	c     api.Config
	tier  int
	order interface {
		Use(block int) bool
		Add(block int) (int, bool, api.Errno)
		Remove(block int) bool
		All() []int
	}
	data [api.MaxBlocks]string // of those that aren't there none
}

func newBook(t *testing.T, c api.Config, tier int) *book {
	t.Helper()
	k := &book{c: c, tier: tier}
	p, e := karma.New(c.Hints, c.Blocks, c.Cap)
	if e != api.OK {
		t.Fatal(int(e))
	}
	switch n := c.Cap[tier-1]; {
	case c.Place == api.PKarma:
		k.order, e = part.New(p, tier)
	case c.Policy[tier-1] == api.LRU:
		k.order = lru.New(n)
	default:
		k.order, e = mq.New(mq.Shape{Capacity: n, Queues: c.Queues, Life: c.Life, Ghost: c.Ghost})
	}
	if e != api.OK {
		t.Fatal(int(e))
	}
	return k
}

// takes tells by the target whether a block that comes from the tier above is to be here, or by its level.
func (k *book) takes(block, level int) bool {
	if k.c.Place == api.PKarma {
		return cache.Target(k.c, block, k.tier-1) == k.tier
	}
	return k.c.Place == api.PAll || level == k.tier
}

// refuses answers what is wrong with a put.
func (k *book) refuses(a act) api.Errno {
	switch {
	case a.block < 0 || a.block >= k.c.Blocks:
		return api.ErrBlock
	case len(a.data) != k.c.Size:
		return api.ErrSize
	case !k.takes(a.block, a.level):
		return api.ErrNone
	}
	return api.OK
}

// answer is what the book answers.
func (k *book) answer(t *testing.T, a act) answer {
	t.Helper()
	there := slices.Contains(k.order.All(), a.block)
	switch {
	case a.word == "clear":
		*k = *newBook(t, k.c, k.tier)
		return answer{}
	case a.word == "put":
		return k.put(a, there)
	case !there || a.word == "set" && len(a.data) != k.c.Size:
		return answer{}
	case a.word == "use":
		k.order.Use(a.block)
		return answer{was: true, data: k.data[a.block]}
	case a.word == "set":
		k.data[a.block] = a.data
		return answer{was: true}
	}
	k.order.Remove(a.block)
	return answer{was: true, block: a.block, data: k.data[a.block]}
}

func (k *book) put(a act, there bool) answer {
	if e := k.refuses(a); e != api.OK {
		return answer{e: e}
	}
	k.data[a.block] = a.data
	if there {
		k.order.Use(a.block)
		return answer{}
	}
	block, gone, e := k.order.Add(a.block)
	if !gone {
		return answer{e: e}
	}
	return answer{gone: true, block: block, data: k.data[block], e: e}
}

// check tells where the cache is otherwise than the book; of bytes nothing, as to tell them is to use them.
func (k *book) check(t *testing.T, got *cache.Cache) {
	t.Helper()
	checkBlocks(t, got, k.order.All())
	for b := -2; b < 40; b++ {
		for level := range 5 {
			want := b >= 0 && b < k.c.Blocks && k.takes(b, level)
			if got.Takes(b, level) != want {
				t.Errorf("Takes(%d, %d): %t", b, level, !want)
			}
		}
	}
}

// checkLast is check, and has each block dropped with its bytes then.
func (k *book) checkLast(t *testing.T, got *cache.Cache) {
	t.Helper()
	checkBlocks(t, got, k.order.All())
	for _, b := range k.order.All() {
		a := act{word: "drop", block: b}
		if x, want := do(got, a), k.answer(t, a); x != want {
			t.Errorf("%v: %v, not %v", a, x, want)
		}
	}
}

// anyConfig is one that is right, of each mode, place and policy.
func anyConfig(t *testing.T, r *rand.Rand) api.Config {
	t.Helper()
	c := anyParted(t, r)
	c.Size = 1 + r.Intn(4)
	c.Queues, c.Life, c.Ghost = 1+r.Intn(8), 1+r.Intn(1+r.Intn(100)), r.Intn(17)
	c.Policy = [3]int{1 + r.Intn(2), 1 + r.Intn(2), 1 + r.Intn(2)}
	if c.Place = r.Intn(3); c.Place != api.PKarma {
		c.Hints = nil
	}
	if c.Place == api.PAll {
		c.Mode = 1 + r.Intn(3)
	}
	return c
}

// anyAct is one that is mostly about blocks that there are, of the cache's own level, with as many bytes as a block's.
func anyAct(r *rand.Rand, c api.Config, tier int) act {
	words := []string{"put", "put", "put", "put", "use", "use", "set", "drop"}
	a := act{words[r.Intn(len(words))], r.Intn(c.Blocks), tier, ""}
	if r.Intn(60) == 0 {
		a.word = "clear"
	}
	if r.Intn(20) == 0 {
		a.block = r.Intn(80) - 8
	}
	if r.Intn(10) == 0 {
		a.level = r.Intn(6) - 1
	}
	n := c.Size
	if r.Intn(15) == 0 {
		n = r.Intn(6)
	}
	for range n {
		a.data += string(rune('a' + r.Intn(26)))
	}
	return a
}

// TestByTheBook: whatever is done, in any order, is answered as the chapter's words say.
func TestByTheBook(t *testing.T) {
	for seed := range int64(200) {
		r := rand.New(rand.NewSource(seed))
		c, tier := anyConfig(t, r), 1+int(seed)%tiers
		k, b := newCache(t, c, tier), newBook(t, c, tier)
		b.check(t, k)
		for i := range 150 {
			a := anyAct(r, c, tier)
			if got, want := do(k, a), b.answer(t, a); got != want {
				t.Fatalf("seed %d, %d, %v: %v, not %v", seed, i, a, got, want)
			}
			if b.check(t, k); t.Failed() {
				t.Fatalf("seed %d, %d, behind %v", seed, i, a)
			}
		}
		if b.checkLast(t, k); t.Failed() {
			t.Fatal(seed)
		}
	}
}

// TestEachShortTale: a few acts, in each order, up to a depth, on a cache of each kind.
func TestEachShortTale(t *testing.T) {
	for _, c := range []api.Config{plain(1), plain(2), queued(1, 2, 1, 2), queued(2, 2, 2, 1), leveled(2), parted(t, 1, "0+2:9"), parted(t, 2, "0+3:9o")} {
		c.Blocks, c.Size = 3, 1
		eachTale(4, func(tale []act) {
			k, b := newCache(t, c, 1), newBook(t, c, 1)
			for _, a := range tale {
				if got, want := do(k, a), b.answer(t, a); got != want {
					t.Fatalf("%v, %v: %v, not %v", c, tale, got, want)
				}
			}
			if b.checkLast(t, k); t.Failed() {
				t.Fatalf("%v, %v", c, tale)
			}
		})
	}
}

// eachTale has f called with each one of so many acts, each of which has bytes of its own.
func eachTale(depth int, f func([]act)) {
	var tale []act
	var goOn func(depth int)
	goOn = func(depth int) {
		if depth == 0 {
			f(tale)
			return
		}
		data := string(rune('a' + depth))
		next := []act{{word: "clear"}}
		for b := range 3 {
			next = append(next, act{"put", b, 1, data}, act{"use", b, 1, ""}, act{"set", b, 1, data}, act{"drop", b, 1, ""})
		}
		for _, a := range next {
			tale = append(tale, a)
			goOn(depth - 1)
			tale = tale[:len(tale)-1]
		}
	}
	goOn(depth)
}

// TestTheSameEachTime: two that have been through the same answer the same, whatever is done to others of their configuration between.
func TestTheSameEachTime(t *testing.T) {
	for seed := range int64(30) {
		r := rand.New(rand.NewSource(seed))
		c := anyConfig(t, r)
		a, b, other, low, k := newCache(t, c, 1), newCache(t, c, 1), newCache(t, c, 1), newCache(t, c, 2), newBook(t, c, 1)
		for i := range 200 {
			what := anyAct(r, c, 1)
			one := do(a, what)
			do(other, anyAct(r, c, 1))
			do(low, anyAct(r, c, 2))
			if two := do(b, what); one != two || one != k.answer(t, what) {
				t.Fatalf("seed %d, %d, %v: %v, then %v", seed, i, what, one, two)
			}
		}
		k.check(t, a)
		k.check(t, b)
	}
}
