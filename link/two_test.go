package link_test

import (
	"fmt"
	"math/rand"
	"slices"
	"testing"

	"gradine/api"
	"gradine/link"
)

// session is a pair of boots, and whose side it is seen from.
type session struct{ side, mine, yours int }

// pair is two ends and what is on its way to each of them; what was sent in each session, and what came.
type pair struct {
	ends  [2]*link.End
	boots [2]int
	ways  [2][][]byte // to that side
	sent  map[session][]string
	came  map[session][]string
	next  int
}

func newPair(t *testing.T) *pair {
	return &pair{ends: [2]*link.End{begin(t, 1), begin(t, 1)}, boots: [2]int{1, 1}, sent: map[session][]string{}, came: map[session][]string{}}
}

// at is the session of a side, named by who sends in it.
func (p *pair) at(side int) session {
	mine, yours := p.ends[side].Boots()
	return session{side, mine, yours}
}

func (p *pair) from(side int) session {
	mine, yours := p.ends[side].Boots()
	return session{1 - side, yours, mine}
}

func (p *pair) tick(side int) {
	p.ways[1-side] = append(p.ways[1-side], p.ends[side].Tick()...)
}

func (p *pair) send(side int) {
	p.next++
	load := fmt.Sprint("load ", p.next)
	out, bad := p.ends[side].Send([]byte(load))
	if bad == api.OK {
		p.sent[p.at(side)] = append(p.sent[p.at(side)], load)
		p.ways[1-side] = append(p.ways[1-side], out...)
	}
}

// take has the i-th packet come to a side.
func (p *pair) take(side, i int) {
	b := p.ways[side][i]
	p.ways[side] = slices.Delete(p.ways[side], i, i+1)
	h, out := p.ends[side].Take(b)
	for _, load := range h.Loads {
		p.came[p.from(side)] = append(p.came[p.from(side)], string(load))
	}
	p.ways[1-side] = append(p.ways[1-side], out...)
}

// anew has a side begin anew, with the next boot; what is on its way stays.
func (p *pair) anew(t *testing.T, side int) {
	p.boots[side]++
	p.ends[side] = begin(t, p.boots[side])
}

// check: in each session what came is the first ones of what was sent.
func (p *pair) check(t *testing.T, what string) {
	t.Helper()
	for s, came := range p.came {
		sent := p.sent[s]
		if len(came) > len(sent) || !slices.Equal(came, sent[:len(came)]) {
			t.Fatalf("%s: in session %v %q came, where %q was sent", what, s, came, sent)
		}
	}
}

// round: all that is on its way comes, the first one each time, then each end ticks.
func (p *pair) round() {
	for side := range 2 {
		for range len(p.ways[side]) {
			p.take(side, 0)
		}
	}
	p.tick(0)
	p.tick(1)
}

// quiet goes on without losses till nothing is to be said, and checks that all came.
func (p *pair) quiet(t *testing.T, what string) {
	t.Helper()
	for range 300 {
		p.round()
	}
	p.check(t, what)
	for side := range 2 {
		e := p.ends[side]
		_, yours := e.Boots()
		if !e.IsUp() || e.Waits() > 0 || e.Timer() > 0 || yours != p.boots[1-side] || len(p.ways[side]) > 0 {
			t.Fatalf("%s: side %d is %s, %d are on the way to it", what, side, stateOf(e), len(p.ways[side]))
		}
		if s := p.at(side); !slices.Equal(p.came[s], p.sent[s]) {
			t.Fatalf("%s: in session %v %d came of %d", what, s, len(p.came[s]), len(p.sent[s]))
		}
	}
}

// habits are how often what happens: out of so many.
type habits struct{ send, tick, take, turned, lose, double, anew int }

func (h habits) all() int {
	return h.send + h.tick + h.take + h.turned + h.lose + h.double + h.anew
}

// step does one thing that the habits allow.
func (p *pair) step(t *testing.T, r *rand.Rand, h habits) {
	n, side := r.Intn(h.all()), r.Intn(2)
	is := func(often int) bool {
		n -= often
		return n < 0
	}
	way := &p.ways[side]
	switch {
	case is(h.send):
		p.send(side)
	case is(h.tick):
		p.tick(side)
	case is(h.anew):
		p.anew(t, side)
	case len(*way) == 0:
	case is(h.take):
		p.take(side, 0)
	case is(h.turned):
		p.take(side, r.Intn(len(*way)))
	case is(h.lose):
		i := r.Intn(len(*way))
		*way = slices.Delete(*way, i, i+1)
	default:
		*way = append(*way, slices.Clone((*way)[r.Intn(len(*way))]))
	}
}

func TestTwoEnds(t *testing.T) {
	for name, h := range map[string]habits{
		"nothing wrong":   {send: 20, tick: 20, take: 60},
		"turned about":    {send: 20, tick: 20, turned: 60},
		"lost":            {send: 20, tick: 20, take: 40, lose: 20},
		"doubled":         {send: 20, tick: 20, take: 50, double: 15},
		"all of it":       {send: 20, tick: 20, take: 20, turned: 20, lose: 10, double: 10},
		"anew":            {send: 20, tick: 20, take: 40, anew: 1},
		"anew, and all":   {send: 20, tick: 20, take: 20, turned: 30, lose: 10, double: 10, anew: 1},
		"often anew":      {send: 10, tick: 30, take: 40, turned: 30, double: 10, anew: 8},
		"many are sent":   {send: 60, tick: 10, turned: 30, lose: 5, double: 5},
		"nearly all lost": {send: 10, tick: 40, take: 5, turned: 5, lose: 40},
	} {
		for seed := range int64(25) {
			r := rand.New(rand.NewSource(seed))
			p := newPair(t)
			what := fmt.Sprintf("%s, seed %d", name, seed)
			for range 4 {
				for range 500 {
					p.step(t, r, h)
					p.check(t, what)
				}
				p.quiet(t, what)
			}
		}
	}
}

// TestThousandsGoOver: nothing stands still, however many there are.
func TestThousandsGoOver(t *testing.T) {
	p := newPair(t)
	p.quiet(t, "first")
	for range 500 {
		for range 8 {
			p.send(0)
			p.send(1)
		}
		p.round()
	}
	p.quiet(t, "then")
	if n := len(p.came[session{0, 1, 1}]); n != 4000 {
		t.Errorf("%d came", n)
	}
}

// TestEachLoss: of the first packets that a pair says each set is lost; all comes still.
func TestEachLoss(t *testing.T) {
	for lost := range 1 << 12 {
		p := newPair(t)
		said := 0
		for n := range 40 {
			for side := range 2 {
				kept := p.ways[side][:0]
				for _, b := range p.ways[side] {
					if said >= 12 || lost>>said&1 == 0 {
						kept = append(kept, b)
					}
					said++
				}
				p.ways[side] = kept
				for range len(kept) {
					p.take(side, 0)
				}
			}
			p.tick(0)
			p.tick(1)
			if n < 20 {
				p.send(n % 2)
			}
		}
		p.quiet(t, fmt.Sprintf("lost %b", lost))
	}
}
