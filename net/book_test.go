package net_test

import (
	"fmt"
	"math/rand"
	"strings"
	"testing"

	"gradine/api"
	"gradine/net"
)

// act is something that is done to a net.
type act struct {
	word      string
	way, i, k int
	frames    string
}

// sent is a frame by the chapter's words: which way it is on, as what, and when it came to its place.
type sent struct {
	way   int
	frame string
	place int
}

// book is a net by the chapter's words: all frames of all ways in one heap, told apart by their places.
type book struct {
	ways, last int
	heap       []sent
}

// at finds a way's i-th frame in the heap: that ahead of which so many are; -1, if there is none.
func (k *book) at(way, i int) int {
	for x, s := range k.heap {
		ahead := 0
		for _, o := range k.heap {
			if o.way == s.way && o.place < s.place {
				ahead++
			}
		}
		if s.way == way && ahead == i {
			return x
		}
	}
	return -1
}

func (k *book) len(way int) int {
	n := 0
	for _, s := range k.heap {
		if s.way == way {
			n++
		}
	}
	return n
}

func (k *book) put(way int, frame string) bool {
	if way < 0 || way >= k.ways || k.len(way) == 400 {
		return false
	}
	k.last++
	k.heap = append(k.heap, sent{way, frame, k.last})
	return true
}

func (k *book) drop(x int) {
	k.heap[x] = k.heap[len(k.heap)-1]
	k.heap = k.heap[:len(k.heap)-1]
}

// answer is what the book answers.
func (k *book) answer(a act) string {
	if a.word == "send" {
		n := 0
		for _, b := range framesOf(a.frames) {
			if k.put(a.way, string(b)) {
				n++
			}
		}
		return fmt.Sprint(n)
	}
	if a.word == "clear" {
		for k.at(a.way, 0) >= 0 {
			k.drop(k.at(a.way, 0))
		}
		return ""
	}
	x := k.at(a.way, a.i)
	if x < 0 {
		return "error 5"
	}
	s := &k.heap[x]
	switch a.word {
	case "turn":
		y := k.at(a.way, a.k)
		if y < 0 {
			return "error 5"
		}
		s.place, k.heap[y].place = k.heap[y].place, s.place
		return ""
	case "twice":
		if !k.put(a.way, s.frame) {
			return "error 4"
		}
		return ""
	}
	frame := s.frame
	k.drop(x)
	if a.word == "lose" {
		return ""
	}
	return "took " + frame
}

func (k *book) state() string {
	var l []string
	for way := -1; way <= k.ways; way++ {
		l = append(l, fmt.Sprint(k.len(way)))
	}
	return strings.Join(append(l, fmt.Sprint(len(k.heap))), " ")
}

// do is what a net answers.
func do(n *net.Net, a act) string {
	e := api.OK
	switch a.word {
	case "send":
		return fmt.Sprint(n.Send(a.way, framesOf(a.frames)))
	case "clear":
		n.Clear(a.way)
	case "turn":
		e = n.Turn(a.way, a.i, a.k)
	case "twice":
		e = n.Twice(a.way, a.i)
	case "lose":
		e = n.Lose(a.way, a.i)
	case "take":
		var b []byte
		if b, e = n.Take(a.way, a.i); e == api.OK {
			return "took " + string(b)
		}
		if len(b) > 0 {
			return fmt.Sprintf("error %d, and %q", int(e), b)
		}
	}
	if e != api.OK {
		return fmt.Sprintf("error %d", int(e))
	}
	return ""
}

func stateOf(n *net.Net, ways int) string {
	var l []string
	for way := -1; way <= ways; way++ {
		l = append(l, fmt.Sprint(n.Len(way)))
	}
	return strings.Join(append(l, fmt.Sprint(n.All())), " ")
}

// anyAct is one that is mostly about ways and frames that there are.
func anyAct(r *rand.Rand, k *book, count int) act {
	a := act{word: []string{"send", "send", "send", "take", "take", "lose", "twice", "twice", "turn", "turn"}[r.Intn(10)]}
	if r.Intn(60) == 0 {
		a.word = "clear"
	}
	a.way = r.Intn(k.ways)
	if r.Intn(20) == 0 {
		a.way = r.Intn(k.ways+4) - 2
	}
	on := k.len(a.way)
	a.i, a.k = r.Intn(on+1), r.Intn(on+1)
	if r.Intn(20) == 0 {
		a.i = -1 - r.Intn(3)
	}
	if a.word == "send" {
		for i := range r.Intn(4) {
			a.frames += fmt.Sprintf(" %d.%d", count, i)
		}
	}
	return a
}

// checkSame tells where the net has other frames on its ways than the book; they are all taken.
func checkSame(t *testing.T, n *net.Net, k *book, what string) {
	t.Helper()
	for way := range k.ways {
		for i := 0; k.len(way) > 0; i++ {
			a := act{word: "take", way: way}
			if got, want := do(n, a), k.answer(a); got != want {
				t.Fatalf("%s: frame %d of way %d: %q, not %q", what, i, way, got, want)
			}
		}
	}
	if n.All() != 0 {
		t.Fatalf("%s: %d are left", what, n.All())
	}
}

// TestByTheBook: whatever is done, in any order, is answered as the chapter's words say.
func TestByTheBook(t *testing.T) {
	for seed := range int64(60) {
		r := rand.New(rand.NewSource(seed))
		ways := 1 + r.Intn(5)
		n, k := net.New(ways), &book{ways: ways}
		for i := range 300 {
			a := anyAct(r, k, i)
			if got, want := do(n, a), k.answer(a); got != want {
				t.Fatalf("seed %d, %d, %v: %q, not %q", seed, i, a, got, want)
			}
			if got, want := stateOf(n, ways), k.state(); got != want {
				t.Fatalf("seed %d, %d, %v: is %q, not %q", seed, i, a, got, want)
			}
		}
		checkSame(t, n, k, fmt.Sprintf("seed %d", seed))
	}
}

// TestEachShortTale: a few acts, in each order, up to a depth.
func TestEachShortTale(t *testing.T) {
	acts := []act{
		{word: "send", frames: "a b"}, {word: "send", way: 1, frames: "c"}, {word: "take"}, {word: "take", i: 1},
		{word: "lose", i: 2}, {word: "twice"}, {word: "turn", k: 1}, {word: "turn", i: 2}, {word: "clear"},
	}
	var tale []act
	var goOn func(depth int)
	goOn = func(depth int) {
		n, k := net.New(2), &book{ways: 2}
		for _, a := range tale {
			if got, want := do(n, a), k.answer(a); got != want {
				t.Fatalf("%v: %q, not %q", tale, got, want)
			}
		}
		checkSame(t, n, k, fmt.Sprint(tale))
		if depth == 0 {
			return
		}
		for _, a := range acts {
			tale = append(tale, a)
			goOn(depth - 1)
			tale = tale[:len(tale)-1]
		}
	}
	goOn(5)
}

// TestTheSameEachTime: two nets that have been through the same answer the same, whatever is done to others between.
func TestTheSameEachTime(t *testing.T) {
	r := rand.New(rand.NewSource(7))
	a, b, other, k := net.New(3), net.New(3), net.New(3), &book{ways: 3}
	for i := range 400 {
		what := anyAct(r, k, i)
		first := do(a, what)
		do(other, anyAct(r, k, i))
		if second := do(b, what); first != second || first != k.answer(what) {
			t.Fatalf("%d, %v: %q, then %q", i, what, first, second)
		}
		if stateOf(a, 3) != stateOf(b, 3) {
			t.Fatalf("%d, %v: %s, and %s", i, what, stateOf(a, 3), stateOf(b, 3))
		}
	}
}
