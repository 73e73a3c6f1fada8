package server_test

import (
	"fmt"
	"math/rand"
	"slices"
	"testing"

	"gradine/api"
	"gradine/cache"
	"gradine/server"
)

// How far a book is with what it is at.
const (
	idle     = ""
	calls    = "it calls the request's block back"
	asks     = "it has asked the array"
	callsOld = "it calls back what went"
)

// asked is a request; of a call-back the message is BInv.
type asked struct {
	client, boot, session int
	m                     api.Msg
}

// pair is a client and a block.
type pair struct{ client, block int }

// book is a server by the chapter's words, with plain maps; its cache is layer 16's.
type book struct {
	c        api.Config
	cache    *cache.Cache
	shares   map[pair]bool
	below    map[int]bool
	boot     map[int]int // of those with a session
	session  map[int]int // how many have ended
	array    bool
	queue    []asked
	at       asked
	is       string
	awaits   map[int]bool
	awaitsOf int // the block
	round    int
	told     []api.Told // since it was asked last
}

func newBook(t *testing.T, c api.Config) *book {
	t.Helper()
	k := &book{c: c, boot: map[int]int{}, session: map[int]int{}}
	var e api.Errno
	if k.cache, e = cache.New(c, 2); e != api.OK {
		t.Fatal(int(e))
	}
	k.forget()
	return k
}

// forget has it know as little of the blocks as a new one.
func (k *book) forget() {
	k.cache.Clear()
	k.shares, k.below = map[pair]bool{}, map[int]bool{}
	for b := range k.c.Blocks {
		k.below[b] = true
	}
}

func (k *book) tell(to int, m api.Msg) {
	k.told = append(k.told, api.Told{To: to, M: m})
}

func (k *book) tellArray(m api.Msg) {
	k.tell(api.ToArray, m)
}

// answers is what was told.
func (k *book) answers() []api.Told {
	k.goOn()
	l := k.told
	k.told = nil
	return l
}

func (k *book) ready() bool {
	return k.array && len(k.boot) == k.c.Clients
}

func (k *book) sharers(block int) []int {
	var l []int
	for client := range k.c.Clients {
		if k.shares[pair{client, block}] {
			l = append(l, client)
		}
	}
	return l
}

// up, gone and reset are what is done to it, but what it hears.

func (k *book) up(client, boot int) {
	if client >= 0 && client < k.c.Clients && boot > 0 {
		k.boot[client] = boot
	}
}

func (k *book) gone(client int) {
	if k.boot[client] == 0 {
		return
	}
	delete(k.boot, client)
	k.session[client]++
	for b := range k.c.Blocks {
		delete(k.shares, pair{client, b})
	}
	var left []asked
	for _, r := range k.queue {
		if r.m.Kind == api.BInv || r.client != client {
			left = append(left, r)
		}
	}
	k.queue = left
	k.acknowledged(client)
}

func (k *book) reset() bool {
	if k.is != idle || len(k.queue) > 0 {
		return false
	}
	k.forget()
	return true
}

// hear is what it does of a right message.
func (k *book) hear(from int, m api.Msg) {
	switch {
	case from == api.ToArray:
		k.hearArray(m)
	case k.boot[from] > 0:
		k.hearClient(from, m)
	}
}

func (k *book) hearClient(from int, m api.Msg) {
	switch m.Kind {
	case api.QRead, api.QWrite:
		r := asked{from, k.boot[from], k.session[from], m}
		if m.Slot < k.c.Slots && m.Block < k.c.Blocks {
			k.queue = append(k.queue, r)
		} else {
			k.answer(r, api.ErrBlock, nil, false)
		}
	case api.QDemote:
		if k.shares[pair{from, m.Block}] {
			delete(k.shares, pair{from, m.Block})
			if k.c.Mode == api.MExclusive && (k.is == idle || k.at.m.Block != m.Block) {
				k.demoted(m)
			}
		}
	case api.QAck:
		delete(k.shares, pair{from, m.Block})
		if m.Block == k.awaitsOf && m.Round == k.round {
			k.acknowledged(from)
		}
	}
}

func (k *book) demoted(m api.Msg) {
	switch {
	case m.Level == 2 && k.cache.Takes(m.Block, 2) && len(m.Data) == k.c.Size:
		if k.below[m.Block] {
			k.tellArray(api.Msg{Kind: api.ADrop, Block: m.Block})
			k.below[m.Block] = false
		}
		k.put(m.Block, m.Data)
	case m.Level == 3:
		k.cache.Drop(m.Block)
		k.toArray(m.Block, m.Data)
	}
}

// toArray hands a block down to it.
func (k *book) toArray(block int, data []byte) {
	k.tellArray(api.Msg{Kind: api.ADemote, Block: block, Level: 3, Data: data})
	k.below[block] = true
}

// put puts a block into the cache, and answers what is to be called back then, or -1.
func (k *book) put(block int, data []byte) int {
	victim, gone, _ := k.cache.Put(api.Frame{Block: block, Data: data}, 2)
	if !gone || k.c.Mode == api.MNine {
		return -1
	}
	if k.c.Mode == api.MInclusive {
		return victim.Block
	}
	if cache.Target(k.c, victim.Block, 2) == 3 {
		k.toArray(victim.Block, victim.Data)
	}
	return -1
}

func (k *book) hearArray(m api.Msg) {
	r := k.at
	switch {
	case m.Kind == api.BInv:
		k.queue = append(k.queue, asked{m: m})
	case k.is != asks:
	case m.Kind == api.BData && r.m.Kind == api.QRead && r.m.Block == m.Block:
		k.came(m.Code, m.Code == api.OK, m.Data)
	case m.Kind == api.BDone && r.m.Kind == api.QWrite:
		if m.Client == r.client && m.Slot == r.m.Slot && m.Boot == r.boot && m.Op == r.m.Op && m.Block == r.m.Block {
			k.came(m.Code, m.Code == api.OK && m.Grant, r.m.Data)
		}
	}
}

// came is what it does when the array has answered; well tells whether that is to be more than answered.
func (k *book) came(code api.Errno, well bool, data []byte) {
	r, old := k.at, -1
	if well {
		old = k.placed(r, data)
	}
	if r.m.Kind == api.QWrite || code != api.OK {
		data = nil
	}
	k.answer(r, code, data, well)
	if k.is = idle; old >= 0 {
		k.callBack(old, callsOld)
	}
}

// placed has the block that a request was about be where it is to be, and answers what is to be called back for that, or -1.
func (k *book) placed(r asked, data []byte) int {
	b := r.m.Block
	if k.c.Mode != api.MExclusive {
		return k.put(b, data)
	}
	k.cache.Drop(b)
	k.below[b] = r.m.Level == 3
	if r.m.Level == 2 && k.cache.Takes(b, 2) {
		k.put(b, data)
	}
	return -1
}

// answer tells the client, unless its session ended since.
func (k *book) answer(r asked, code api.Errno, data []byte, well bool) {
	if k.session[r.client] != r.session {
		return
	}
	m := api.Msg{Kind: map[int]int{api.QRead: api.RData, api.QWrite: api.RDone}[r.m.Kind], Slot: r.m.Slot, Op: r.m.Op, Block: r.m.Block, Level: r.m.Level, Code: code, Data: data}
	if m.Grant = well && (k.c.Mode != api.MExclusive || m.Level == 1); m.Grant {
		k.shares[pair{r.client, m.Block}] = true
	}
	k.tell(r.client, m)
}

// callBack has those who share a block drop it; why is what it is at as long as one has not.
func (k *book) callBack(block int, why string) {
	k.round++
	k.is, k.awaits, k.awaitsOf = why, map[int]bool{}, block
	for _, client := range k.sharers(block) {
		k.awaits[client] = true
		k.tell(client, api.Msg{Kind: api.RInv, Block: block, Round: k.round})
	}
	if len(k.awaits) == 0 {
		k.calledBack()
	}
}

func (k *book) acknowledged(client int) {
	if k.awaits[client] {
		if delete(k.awaits, client); len(k.awaits) == 0 {
			k.calledBack()
		}
	}
}

func (k *book) calledBack() {
	r := k.at
	if k.is == callsOld || r.m.Kind == api.BInv {
		k.is = idle
		return
	}
	k.is = asks
	k.tellArray(api.Msg{Kind: api.AWrite, Client: r.client, Slot: r.m.Slot, Boot: r.boot, Op: r.m.Op, Block: r.m.Block, Level: r.m.Level, Data: r.m.Data})
}

// goOn begins what waits.
func (k *book) goOn() {
	for k.is == idle && k.ready() && len(k.queue) > 0 {
		k.at, k.queue = k.queue[0], k.queue[1:]
		r := k.at
		b := r.m.Block
		if r.m.Kind != api.QRead {
			if r.m.Kind == api.BInv {
				k.cache.Drop(b)
			}
			k.callBack(b, calls)
			continue
		}
		if !k.cache.Has(b) {
			k.is = asks
			k.tellArray(api.Msg{Kind: api.ARead, Block: b, Level: r.m.Level})
			continue
		}
		data, _ := k.cache.Use(b)
		if k.c.Mode == api.MExclusive && r.m.Level != 2 {
			k.cache.Drop(b)
			if r.m.Level == 3 {
				k.toArray(b, data)
			}
		}
		k.answer(r, api.OK, data, true)
	}
}

// check tells where the server is otherwise than the book.
func (k *book) check(t *testing.T, s *server.Server) {
	t.Helper()
	checkBlocks(t, s, k.cache.All()...)
	checkWaits(t, s, len(k.queue), k.is != idle || len(k.queue) > 0)
	checkReady(t, s, k.ready())
	for b := range k.c.Blocks {
		checkSharers(t, s, b, k.sharers(b)...)
	}
}

// player plays what may be done to a server on it and on its book.
type player struct {
	t     *testing.T
	r     *rand.Rand
	s     *server.Server
	k     *book
	waits []api.Told // what was told, and not answered as yet
	boots int
}

func newPlayer(t *testing.T, r *rand.Rand) *player {
	t.Helper()
	c := anyConfig(r)
	return &player{t: t, r: r, s: bare(t, c), k: newBook(t, c)}
}

// anyConfig is one that is right, of each mode, place and policy.
func anyConfig(r *rand.Rand) api.Config {
	c := api.Config{Clients: 1 + r.Intn(4), Slots: 1 + r.Intn(4), Blocks: 1 + r.Intn(10), Size: 1 + r.Intn(3), Mode: api.MExclusive,
		Policy: [3]int{1 + r.Intn(2), 1 + r.Intn(2), 1 + r.Intn(2)}, Cap: [3]int{1 + r.Intn(4), 1 + r.Intn(4), 1 + r.Intn(4)},
		Queues: 1 + r.Intn(8), Life: 1 + r.Intn(30), Ghost: r.Intn(17), Demote: 1, Place: r.Intn(3)}
	switch c.Place {
	case api.PAll:
		c.Mode = 1 + r.Intn(3)
	case api.PKarma:
		for from := 0; from < c.Blocks; from++ {
			if n := r.Intn(6); n > 0 && from+n <= c.Blocks && len(c.Hints) < 8 {
				c.Hints = append(c.Hints, api.Hint{From: from, Size: n, Often: r.Intn(9), Loop: r.Intn(2) == 0})
				from += n - 1
			}
		}
	}
	return c
}

// did holds what the server told, of something that was done, against the book.
func (p *player) did(what string, got []api.Told) {
	want := p.k.answers()
	if !slices.EqualFunc(got, want, same) {
		p.t.Errorf("%s: %s, not %s", what, tellAll(got), tellAll(want))
	}
	p.waits = append(p.waits, want...)
}

func (p *player) hear(from int, m api.Msg) {
	p.k.hear(from, m)
	if p.did("Hear", p.s.Hear(from, m)); p.t.Failed() {
		p.t.Fatalf("%d, %s", from, tell(m))
	}
}

// upAll has there be a session with whom there is none.
func (p *player) upAll() {
	for client := range p.k.c.Clients {
		if p.k.boot[client] == 0 {
			p.up(client)
		}
	}
}

func (p *player) up(client int) {
	p.boots++
	p.k.up(client, p.boots)
	p.did("Up", p.s.Up(client, p.boots))
}

func (p *player) arrayUp() {
	p.k.array = true
	p.did("ArrayUp", p.s.ArrayUp())
}

// act does something to both, and tells where they are otherwise.
func (p *player) act() {
	r, client := p.r, p.r.Intn(p.k.c.Clients)
	switch n := r.Intn(100); {
	case n < 55:
		p.reply()
	case n < 80:
		p.hear(client, p.question())
	case n < 86:
		p.hear(client, qDemote(p.block(), r.Intn(5), p.bytes()))
	case n < 90:
		p.hear(api.ToArray, bInv(p.block()))
	case n < 92:
		p.k.gone(client)
		p.did("Gone", p.s.Gone(client))
	case n < 95:
		p.upAll()
	case n < 96:
		p.arrayUp()
	case n < 97:
		if got, want := p.s.Reset(), p.k.reset(); got != want {
			p.t.Errorf("Reset: %t", got)
		}
	default:
		from := []int{client, client, api.ToArray, api.ToServer}[r.Intn(4)]
		p.hear(from, p.stray(from))
	}
	p.k.check(p.t, p.s)
}

// reply answers one of what waits for that, mostly as it is to be answered.
func (p *player) reply() {
	if len(p.waits) == 0 {
		return
	}
	i := p.r.Intn(len(p.waits))
	x := p.waits[i]
	p.waits = slices.Delete(p.waits, i, i+1)
	code := api.OK
	if p.r.Intn(10) == 0 {
		code = api.Errno(p.r.Intn(17))
	}
	switch m := x.M; m.Kind {
	case api.RInv:
		p.hear(x.To, qAck(m.Block, m.Round))
	case api.ARead:
		if code != api.OK {
			p.hear(x.To, bNone(m.Block, code))
		} else {
			p.hear(x.To, bData(m.Block, p.bytes()))
		}
	case api.AWrite:
		p.hear(x.To, bDone(m.Client, m.Boot, m, code, p.r.Intn(8) > 0))
	}
}

// block is mostly one that there is.
func (p *player) block() int {
	if p.r.Intn(40) == 0 {
		return p.r.Intn(api.MaxBlocks)
	}
	return p.r.Intn(p.k.c.Blocks)
}

// bytes are mostly as many as a block's.
func (p *player) bytes() string {
	b := make([]byte, p.k.c.Size)
	if p.r.Intn(25) == 0 {
		b = make([]byte, p.r.Intn(6))
	}
	p.r.Read(b)
	return string(b)
}

// question is what a client asks.
func (p *player) question() api.Msg {
	r := p.r
	slot, level := r.Intn(p.k.c.Slots), r.Intn(5)
	if r.Intn(40) == 0 {
		slot = r.Intn(api.MaxSlots)
	}
	if r.Intn(2) == 0 {
		level = 1 + r.Intn(2)
	}
	if r.Intn(3) == 0 {
		return qWrite(slot, r.Intn(100), p.block(), level, p.bytes())
	}
	return qRead(slot, r.Intn(100), p.block(), level)
}

// stray is a message that nobody waits for: of a round, a block, or a write that may be another one; what the array tells there is of a read or a write that the server isn't at.
func (p *player) stray(from int) api.Msg {
	r := p.r
	if from != api.ToArray {
		return qAck(p.block(), max(p.k.round-r.Intn(2), 0))
	}
	if r.Intn(2) == 0 {
		return bData((p.k.at.m.Block+1)%api.MaxBlocks, p.bytes())
	}
	return bDone(p.k.at.client, p.k.at.boot, p.k.at.m, api.OK, r.Intn(2) == 0)
}

// TestByTheBook: whatever is heard, of whomever, in any order, whoever's session begins or ends, is answered as the chapter's words say.
func TestByTheBook(t *testing.T) {
	for seed := range int64(1500) {
		p := newPlayer(t, rand.New(rand.NewSource(seed)))
		if seed%5 > 0 {
			p.upAll()
			p.arrayUp()
		}
		for i := range 200 {
			if p.act(); t.Failed() {
				t.Fatalf("seed %d, %d, %+v", seed, i, p.k.c)
			}
		}
	}
}

// TestTheSameEachTime: two that have been through the same answer the same, whatever is done to others between.
func TestTheSameEachTime(t *testing.T) {
	for seed := range int64(60) {
		var l []*player
		for _, x := range []int64{seed, seed + 1000, seed} {
			p := newPlayer(t, rand.New(rand.NewSource(x)))
			p.upAll()
			p.arrayUp()
			l = append(l, p)
		}
		for i := range 150 {
			for _, p := range l {
				p.act()
			}
			if l[2].k.check(t, l[0].s); t.Failed() {
				t.Fatalf("seed %d, %d", seed, i)
			}
		}
	}
}

// step is something that may be done next in a short tale.
type step func(p *player)

// steps are such of two clients and two blocks, and of what the array, or a client, answers what it was told first.
func steps() []step {
	reply := func(kinds ...int) step {
		return func(p *player) {
			for i, x := range p.waits {
				if slices.Contains(kinds, x.M.Kind) {
					p.waits = slices.Delete(p.waits, i, i+1)
					p.answerWell(x)
					return
				}
			}
		}
	}
	l := []step{
		reply(api.ARead, api.AWrite),
		reply(api.RInv),
		func(p *player) { p.k.gone(1); p.did("Gone", p.s.Gone(1)) },
		func(p *player) { p.upAll() },
		func(p *player) { p.hear(api.ToArray, bInv(0)) },
		func(p *player) { p.hear(0, qDemote(0, 2, "a")) },
		func(p *player) { p.hear(0, qDemote(0, 3, "a")) },
	}
	for client := range 2 {
		l = append(l, func(p *player) { p.hear(client, qWrite(client, 1, 0, 1, "b")) })
	}
	for _, level := range []int{1, 2, 3} {
		l = append(l, func(p *player) { p.hear(0, qRead(0, 2, 0, level)) })
	}
	return append(l, func(p *player) { p.hear(1, qRead(0, 3, 0, 1)) }, func(p *player) { p.hear(1, qRead(0, 4, 1, 2)) })
}

// answerWell answers what was told as it is to be.
func (p *player) answerWell(x api.Told) {
	switch m := x.M; m.Kind {
	case api.RInv:
		p.hear(x.To, qAck(m.Block, m.Round))
	case api.ARead:
		p.hear(x.To, bData(m.Block, "c"))
	case api.AWrite:
		p.hear(x.To, bDone(m.Client, m.Boot, m, api.OK, true))
	}
}

// TestEachShortTale: a few steps, in each order, up to a depth, on a server of each kind, be it new, or one that has a block while the other one is shared.
func TestEachShortTale(t *testing.T) {
	all := steps()
	for _, c := range []api.Config{plain(1, 1), plain(2, 1), plain(3, 1), leveled(1), parted()} {
		c.Clients, c.Blocks, c.Size, c.Cap = 2, 2, 1, [3]int{1, 1, 1}
		if c.Place == api.PKarma {
			c.Blocks, c.Hints = 3, []api.Hint{{From: 2, Size: 1, Often: 9}, {From: 0, Size: 2, Often: 1}}
		}
		for _, first := range [][]int{nil, {9, 0, 13, 0}} {
			t.Run(fmt.Sprint(c.Mode, c.Place, first), func(t *testing.T) {
				t.Parallel()
				eachTale(len(all), 4, func(tale []int) {
					p := &player{t: t, s: bare(t, c), k: newBook(t, c)}
					p.upAll()
					p.arrayUp()
					for _, i := range slices.Concat(first, tale) {
						all[i](p)
					}
					if p.k.check(t, p.s); t.Failed() {
						t.Fatal(tale)
					}
				})
			})
		}
	}
}

// eachTale has f called with each list of so many numbers below n.
func eachTale(n, depth int, f func([]int)) {
	tale := make([]int, depth)
	var goOn func(i int)
	goOn = func(i int) {
		if i == depth {
			f(tale)
			return
		}
		for tale[i] = range n {
			goOn(i + 1)
		}
	}
	goOn(0)
}
