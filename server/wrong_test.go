package server_test

import (
	"math"
	"strings"
	"testing"

	"gradine/api"
	"gradine/server"
)

// TestNewOfWrong: there is no server of a configuration that isn't right.
func TestNewOfWrong(t *testing.T) {
	for name, change := range map[string]func(c *api.Config){
		"none":                    func(c *api.Config) { *c = api.Config{} },
		"Clients 0":               func(c *api.Config) { c.Clients = 0 },
		"Clients 5":               func(c *api.Config) { c.Clients = 5 },
		"Slots 0":                 func(c *api.Config) { c.Slots = 0 },
		"Slots 5":                 func(c *api.Config) { c.Slots = 5 },
		"Blocks 0":                func(c *api.Config) { c.Blocks = 0 },
		"Blocks 33":               func(c *api.Config) { c.Blocks = 33 },
		"Size 0":                  func(c *api.Config) { c.Size = 0 },
		"Size 17":                 func(c *api.Config) { c.Size = 17 },
		"Mode 0":                  func(c *api.Config) { c.Mode = 0 },
		"Mode 4":                  func(c *api.Config) { c.Mode = 4 },
		"Place 3":                 func(c *api.Config) { c.Place = 3 },
		"PUni, but inclusive":     func(c *api.Config) { c.Place, c.Mode = api.PUni, api.MInclusive },
		"PKarma, but MNine":       func(c *api.Config) { c.Place, c.Mode = api.PKarma, api.MNine },
		"the server's policy 3":   func(c *api.Config) { c.Policy[1] = 3 },
		"the server's capacity 0": func(c *api.Config) { c.Cap[1] = 0 },
		"the array's capacity 17": func(c *api.Config) { c.Cap[2] = 17 },
		"a client's capacity -1":  func(c *api.Config) { c.Cap[0] = -1 },
		"Queues 9":                func(c *api.Config) { c.Queues = 9 },
		"Life 0":                  func(c *api.Config) { c.Life = 0 },
		"Ghost 17":                func(c *api.Config) { c.Ghost = 17 },
		"Demote 0":                func(c *api.Config) { c.Demote = 0 },
		"hints without PKarma":    func(c *api.Config) { c.Hints = []api.Hint{{From: 0, Size: 1, Often: 1}} },
		"a hint beyond Blocks": func(c *api.Config) {
			c.Place, c.Mode, c.Hints = api.PKarma, api.MExclusive, []api.Hint{{From: blocks, Size: 1, Often: 1}}
		},
	} {
		c := plain(api.MInclusive, 2)
		change(&c)
		if s, e := server.New(c); s != nil || e != api.ErrArg {
			t.Errorf("%s: %v %d", name, s, int(e))
		}
	}
}

// TestNoSuchBlock: a read or a write of a block or a slot that there isn't is answered at once, whatever the server is at, and be it ready or not; nothing waits for it.
func TestNoSuchBlock(t *testing.T) {
	wrongs := func(s *server.Server, client int) {
		t.Helper()
		queue, busy := s.Queue(), s.Busy()
		for _, x := range [][2]int{{0, blocks}, {1, 31}, {slots, 3}, {3, 0}, {slots, blocks}} {
			for _, level := range levels() {
				q := qRead(x[0], 7, x[1], level)
				checkHear(t, s, client, q, rData(client, q, api.ErrBlock, false, ""))
				for _, data := range []string{"", "ab", "abc"} {
					q = qWrite(x[0], great, x[1], level, data)
					checkHear(t, s, client, q, rDone(client, q, api.ErrBlock, false))
				}
			}
		}
		checkWaits(t, s, queue, busy)
		checkSharers(t, s, blocks)
		checkSharers(t, s, 31)
	}
	for _, c := range kinds() {
		s := bare(t, c)
		s.Up(1, 5)
		wrongs(s, 1)
		s = shared(t, c)
		wrongs(s, 0)
		s.Hear(1, qWrite(0, 1, 3, 1, "ab"))
		wrongs(s, 2)
		s.Hear(1, qRead(0, 1, 3, 1))
		wrongs(s, 1)
		checkSharers(t, s, 3, 0, 2)
		checkSharers(t, s, 4, 1)
	}
}

// checkDeaf tells where a server that is at a call-back of block 3 from clients 0 and 2 hears a message otherwise than as nothing.
func checkDeaf(t *testing.T, s *server.Server, from int, m api.Msg) {
	t.Helper()
	want := s.Blocks()
	checkHear(t, s, from, m)
	checkBlocks(t, s, want...)
	checkSharers(t, s, 3, 0, 2)
	checkSharers(t, s, 4, 1)
	checkWaits(t, s, 0, true)
}

// calling is a server that is at a call-back of block 3, of round 1, which it awaits of clients 0 and 2.
func calling(t *testing.T, c api.Config) *server.Server {
	t.Helper()
	s := shared(t, c)
	checkArray(t, s, bInv(3), rInv(0, 3, 1), rInv(2, 3, 1))
	return s
}

// everyKind are messages of each kind that there is, which would do something, were they heard of whoever sends such.
func everyKind() []api.Msg {
	q := qRead(0, 1, 3, 1)
	l := []api.Msg{q, qWrite(0, 1, 3, 1, "ab"), qDemote(3, 2, "ab"), qAck(3, 1), bData(3, "ab"), bDone(1, 11, q, api.OK, true), bInv(3)}
	for _, x := range []api.Told{rData(0, q, api.OK, true, "ab"), rDone(0, q, api.OK, true), rInv(0, 3, 1), aRead(3, 1), aWrite(0, 1, q), aDemote(3, "ab"), aDrop(3)} {
		l = append(l, x.M)
	}
	return l
}

// TestHearOfAnother: kinds that a client, or the array, doesn't send are nothing.
func TestHearOfAnother(t *testing.T) {
	for _, c := range kinds() {
		s := calling(t, c)
		for _, m := range everyKind() {
			if m.Kind > api.QAck {
				for client := range clients {
					checkDeaf(t, s, client, m)
				}
			}
			if m.Kind < api.BData {
				checkDeaf(t, s, api.ToArray, m)
			}
		}
		checkHear(t, s, 0, qAck(3, 1))
		checkHear(t, s, 2, qAck(3, 1))
		checkWaits(t, s, 0, false)
	}
}

// TestHearOfNone: of who is neither a client nor the array, and of a client without a session, nothing is heard.
func TestHearOfNone(t *testing.T) {
	for _, c := range kinds() {
		s := calling(t, c)
		for _, from := range []int{api.ToServer, -3, -4, clients, 4, 5, 64, 1 << 32, math.MaxInt, math.MinInt} {
			checkTold(t, "Up", s.Up(from, 5))
			for _, m := range append(everyKind(), qRead(0, 1, 31, 0)) {
				checkDeaf(t, s, from, m)
			}
		}
		c.Cap[1] = 3
		s = shared(t, c)
		share(t, s, 2, 6)
		s.Gone(2)
		queue, want := s.Queue(), s.Blocks()
		for _, m := range append(everyKind(), qDemote(6, 2, "ab"), qAck(6, 0), qRead(0, 1, 31, 0), qWrite(3, 1, 3, 0, "")) {
			if m.Kind < api.BData {
				checkHear(t, s, 2, m)
			}
		}
		checkBlocks(t, s, want...)
		if s.Queue() != queue {
			t.Errorf("Queue: %d, not %d", s.Queue(), queue)
		}
		checkTold(t, "Up", bare(t, c).Hear(0, qRead(0, 1, 31, 0)))
	}
}

// notRight are messages of the kinds that the server hears that aren't right: each of them has a number beyond its bounds, or a field that its kind doesn't name.
func notRight() []api.Msg {
	var l []api.Msg
	for _, m := range everyKind() {
		if m.Kind > api.QAck && m.Kind < api.BData {
			continue
		}
		for _, n := range []int{-1, math.MinInt, math.MaxInt, great + 1} {
			for _, f := range []*int{&m.Client, &m.Slot, &m.Boot, &m.Op, &m.Block, &m.Level, &m.Round, (*int)(&m.Code)} {
				was := *f
				*f = n
				l = append(l, m)
				*f = was
			}
		}
		m.Data = []byte(strings.Repeat("z", 65))
		l = append(l, m)
	}
	return append(l, noFields()...)
}

// noFields are messages with a field that their kind doesn't name, and of no kind.
func noFields() []api.Msg {
	l := []api.Msg{
		{Kind: api.QRead, Client: 1, Op: 1, Block: 3},
		{Kind: api.QRead, Boot: 1, Op: 1, Block: 3},
		{Kind: api.QRead, Op: 1, Block: 3, Data: []byte("ab")},
		{Kind: api.QRead, Op: 1, Block: 3, Grant: true},
		{Kind: api.QWrite, Op: 1, Block: 3, Code: api.ErrShort, Data: []byte("ab")},
		{Kind: api.QWrite, Op: 1, Boot: 1, Block: 3, Data: []byte("ab")},
		{Kind: api.QDemote, Op: 1, Block: 3, Level: 2, Data: []byte("ab")},
		{Kind: api.QDemote, Slot: 1, Block: 3, Level: 2, Data: []byte("ab")},
		{Kind: api.QAck, Block: 3, Round: 1, Level: 1},
		{Kind: api.QAck, Block: 3, Round: 1, Data: []byte("ab")},
		{Kind: api.BData, Block: 3, Level: 1, Data: []byte("ab")},
		{Kind: api.BData, Block: 3, Grant: true, Data: []byte("ab")},
		{Kind: api.BDone, Client: 1, Boot: 11, Op: 1, Block: 3, Grant: true, Level: 1},
		{Kind: api.BInv, Block: 3, Round: 1},
	}
	for _, kind := range []int{0, -1, 15, 16, 22, 264, math.MaxInt, math.MinInt, 1<<32 + api.QRead, 1<<32 + api.BInv} {
		l = append(l, api.Msg{Kind: kind}, api.Msg{Kind: kind, Block: 3, Round: 1})
	}
	return l
}

// TestHearNotRight: nothing is told of a message that isn't right, and nothing changes.
func TestHearNotRight(t *testing.T) {
	for _, c := range kinds() {
		s := calling(t, c)
		for _, m := range notRight() {
			for _, from := range []int{0, 1, 2, api.ToArray} {
				checkDeaf(t, s, from, m)
			}
		}
		checkHear(t, s, 0, qAck(3, 1))
		checkHear(t, s, 2, qAck(3, 1))
		q := qWrite(0, 1, 3, 1, "ab")
		checkHear(t, s, 1, q, aWrite(1, 11, q))
		for _, m := range notRight() {
			checkArray(t, s, m)
		}
		checkArray(t, s, bDone(1, 11, q, api.OK, true), rDone(1, q, api.OK, true))
	}
}

// TestNil: of no server nothing is told, and it is neither busy nor ready.
func TestNil(t *testing.T) {
	var s *server.Server
	for _, n := range []int{-3, -2, -1, 0, 1, 3, 4, math.MaxInt, math.MinInt} {
		for _, m := range append(notRight(), everyKind()...) {
			if l := s.Hear(n, m); l != nil {
				t.Error(tellAll(l))
			}
		}
		if l := s.Up(n, 1); l != nil {
			t.Error(tellAll(l))
		}
		if l := s.Up(0, n); l != nil {
			t.Error(tellAll(l))
		}
		if l := s.Gone(n); l != nil {
			t.Error(tellAll(l))
		}
		if l := s.Sharers(n); l != nil {
			t.Error(l)
		}
	}
	if l := s.ArrayUp(); l != nil {
		t.Error(tellAll(l))
	}
	if l := s.Blocks(); l != nil {
		t.Error(l)
	}
	checkWaits(t, s, 0, false)
	checkReady(t, s, false)
	if s.Reset() {
		t.Error("Reset: true")
	}
}

// TestSharersOfNone: nobody shares a block that there isn't.
func TestSharersOfNone(t *testing.T) {
	for _, c := range kinds() {
		s := shared(t, c)
		for _, b := range []int{-1, blocks, 31, 32, 64, math.MaxInt, math.MinInt} {
			checkSharers(t, s, b)
		}
	}
}
