package mq_test

import (
	"math/rand"
	"slices"
	"testing"

	"gradine/api"
	"gradine/mq"
)

// act is something that is done to an MQ.
type act struct {
	word  string
	block int
}

// answer is what is answered to it.
type answer struct {
	was, gone bool
	victim    int
	e         api.Errno
}

// page is a block in the book: how often it was used, and when it expires.
type page struct{ block, often, expires int }

// book is an MQ by the chapter's words, written out.
type book struct {
	mq.Shape
	time   int
	queues [][]page
	ghosts []page
}

func newBook(s mq.Shape) *book {
	return &book{Shape: s, queues: make([][]page, s.Queues)}
}

// cut answers l without the block, its page, and whether it was there.
func cut(l []page, block int) ([]page, page, bool) {
	for i, p := range l {
		if p.block == block {
			return slices.Concat(l[:i], l[i+1:]), p, true
		}
	}
	return l, page{}, false
}

// take has the block be in no queue any more.
func (k *book) take(block int) (page, bool) {
	for i := range k.queues {
		rest, p, was := cut(k.queues[i], block)
		if was {
			k.queues[i] = rest
			return p, true
		}
	}
	return page{}, false
}

// first has the page be first in the queue, with a new lifetime.
func (k *book) first(queue int, p page) {
	p.expires = k.time + k.Life
	k.queues[queue] = slices.Concat([]page{p}, k.queues[queue])
}

// placed has the page's block, used once more, be placed, and all age.
func (k *book) placed(p page) {
	p.often++
	k.first(min(halvings(p.often), k.Queues-1), p)
	for i := 1; i < k.Queues; i++ {
		n := len(k.queues[i]) - 1
		if n >= 0 && k.queues[i][n].expires < k.time {
			down := k.queues[i][n]
			k.queues[i] = k.queues[i][:n]
			k.first(i-1, down)
		}
	}
}

// victim has one go, and be a ghost.
func (k *book) victim() int {
	for i, q := range k.queues {
		if n := len(q) - 1; n >= 0 {
			k.queues[i] = q[:n]
			k.ghosts = slices.Concat([]page{q[n]}, k.ghosts)
			k.ghosts = k.ghosts[:min(len(k.ghosts), k.Ghost)]
			return q[n].block
		}
	}
	return stays
}

// blocks are those of some pages.
func blocksOf(l []page) []int {
	var b []int
	for _, p := range l {
		b = append(b, p.block)
	}
	return b
}

// all are the pages of all queues, from the last one down.
func (k *book) all() []page {
	var l []page
	for _, q := range slices.Backward(k.queues) {
		l = append(l, q...)
	}
	return l
}

// answer is what the book answers.
func (k *book) answer(a act) answer {
	if a.word == "remove" {
		_, was := k.take(a.block)
		return answer{was: was}
	}
	if a.word == "add" && (a.block < 0 || a.block >= blocks) {
		return answer{e: api.ErrRange}
	}
	p, was := k.take(a.block)
	if was {
		k.time++
		k.placed(p)
		return answer{was: a.word == "use"}
	}
	if a.word == "use" {
		return answer{}
	}
	k.time++
	var x answer
	if len(k.all()) == k.Capacity {
		x.victim, x.gone = k.victim(), true
	}
	k.ghosts, p, was = cut(k.ghosts, a.block)
	if !was {
		p = page{block: a.block}
	}
	k.placed(p)
	return x
}

// differs tells what is told otherwise of an MQ than the book says.
func (k *book) differs(m *mq.MQ) string {
	if !slices.Equal(m.All(), blocksOf(k.all())) {
		return "All"
	}
	if m.Len() != len(k.all()) {
		return "Len"
	}
	if !slices.Equal(m.Ghosts(), blocksOf(k.ghosts)) {
		return "Ghosts"
	}
	for i := -1; i <= maxQueues+1; i++ {
		var q []page
		if i >= 0 && i < k.Queues {
			q = k.queues[i]
		}
		if !slices.Equal(m.Queue(i), blocksOf(q)) {
			return "Queue " + numberText(i)
		}
	}
	for b := -1; b <= blocks; b++ {
		_, p, there := cut(k.all(), b)
		if m.Has(b) != there {
			return "Has " + numberText(b)
		}
		if !there {
			_, p, _ = cut(k.ghosts, b)
		}
		if m.Often(b) != p.often {
			return "Often " + numberText(b)
		}
	}
	return ""
}

// do is what an MQ answers.
func do(m *mq.MQ, a act) answer {
	var x answer
	switch a.word {
	case "add":
		x.victim, x.gone, x.e = m.Add(a.block)
	case "use":
		x.was = m.Use(a.block)
	case "remove":
		x.was = m.Remove(a.block)
	}
	return x
}

// anyAct is one that is mostly about blocks that there are, some of them more often than others.
func anyAct(r *rand.Rand, blocks int) act {
	words := []string{"add", "add", "add", "add", "use", "use", "use", "remove"}
	a := act{words[r.Intn(len(words))], r.Intn(1 + r.Intn(blocks))}
	if r.Intn(25) == 0 {
		a.block = r.Intn(70) - 3
	}
	return a
}

// anyShape is one that may be, with a lifetime that is mostly short.
func anyShape(r *rand.Rand) mq.Shape {
	return mq.Shape{
		Capacity: 1 + r.Intn(most),
		Queues:   1 + r.Intn(maxQueues),
		Life:     1 + r.Intn(1+r.Intn(maxLife)),
		Ghost:    r.Intn(most + 1),
	}
}

// TestByTheBook: whatever is done, in any order, is answered as the chapter's words say.
func TestByTheBook(t *testing.T) {
	for seed := range int64(200) {
		r := rand.New(rand.NewSource(seed))
		s, blocks := anyShape(r), 1+r.Intn(64)
		m, k := newMQ(t, s.Capacity, s.Queues, s.Life, s.Ghost), newBook(s)
		for i := range 400 {
			a := anyAct(r, blocks)
			if got, want := do(m, a), k.answer(a); got != want {
				t.Fatalf("seed %d, %v, %d, %v: %v, not %v", seed, s, i, a, got, want)
			}
			if d := k.differs(m); d != "" {
				t.Fatalf("seed %d, %v, %d, behind %v: %s", seed, s, i, a, d)
			}
		}
	}
}

// TestEachShortTale: a few acts, in each order, up to a depth, of each small shape.
func TestEachShortTale(t *testing.T) {
	acts := []act{{"add", 0}, {"add", 1}, {"add", 63}, {"use", 0}, {"remove", 0}}
	var tale []act
	var goOn func(s mq.Shape, depth int)
	goOn = func(s mq.Shape, depth int) {
		m, k := newMQ(t, s.Capacity, s.Queues, s.Life, s.Ghost), newBook(s)
		for _, a := range tale {
			if got, want := do(m, a), k.answer(a); got != want {
				t.Fatalf("%v, %v: %v, not %v", s, tale, got, want)
			}
		}
		if d := k.differs(m); d != "" {
			t.Fatalf("%v, %v: %s", s, tale, d)
		}
		if depth == 0 {
			return
		}
		for _, a := range acts {
			tale = append(tale, a)
			goOn(s, depth-1)
			tale = tale[:len(tale)-1]
		}
	}
	for _, s := range smallShapes() {
		goOn(s, 5)
	}
}

// smallShapes are those of the least numbers.
func smallShapes() []mq.Shape {
	var l []mq.Shape
	for i := range 2 * 3 * 2 * 3 {
		l = append(l, mq.Shape{Capacity: 1 + i%2, Queues: 1 + i/2%3, Life: 1 + i/6%2, Ghost: i / 12})
	}
	return l
}

// TestTheSameEachTime: two that have been through the same answer the same, whatever is done to others between.
func TestTheSameEachTime(t *testing.T) {
	r := rand.New(rand.NewSource(7))
	s := mq.Shape{Capacity: 4, Queues: 3, Life: 5, Ghost: 3}
	a, b, other := newMQ(t, 4, 3, 5, 3), newMQ(t, 4, 3, 5, 3), newMQ(t, 4, 3, 5, 3)
	k := newBook(s)
	for i := range 300 {
		what := anyAct(r, 9)
		one := do(a, what)
		do(other, anyAct(r, 9))
		if two := do(b, what); one != two || one != k.answer(what) {
			t.Fatalf("%d, %v: %v, then %v", i, what, one, two)
		}
	}
	if d := k.differs(a) + k.differs(b); d != "" {
		t.Error(d)
	}
}
