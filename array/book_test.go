package array_test

import (
	"math/rand"
	"testing"

	"gradine/api"
	"gradine/array"
	"gradine/cache"
	"gradine/raw"
	"gradine/sector"
)

// last is a slot's last write, and what it was answered.
type last struct {
	boot, op int
	code     api.Errno
}

// book is an array by the chapter's words: blocks with their versions, the slots' last writes, and a cache, asked for its order and its bytes.
type book struct {
	c       api.Config
	cache   *cache.Cache
	version [api.MaxBlocks]int
	data    [api.MaxBlocks]string
	slots   [api.MaxClients][api.MaxSlots]last
	fuse    int      // how many sectors more may be written; below 0: as many as one likes
	begun   *api.Msg // a write whose journal is on the disk
	half    bool     // whether its block is, too
	reads   int
	down    bool
}

func newBook(t *testing.T, c api.Config) *book {
	t.Helper()
	k := &book{c: c, fuse: -1}
	for b := range k.data {
		k.data[b] = string(make([]byte, c.Size))
	}
	k.beginAnew(t)
	return k
}

// beginAnew is a new array over the same disk, which is up.
func (k *book) beginAnew(t *testing.T) {
	t.Helper()
	var e api.Errno
	if k.cache, e = cache.New(k.c, 3); e != api.OK {
		t.Fatal(int(e))
	}
	if k.begun != nil {
		if !k.half {
			k.set(*k.begun)
		}
		k.slots[k.begun.Client][k.begun.Slot] = last{k.begun.Boot, k.begun.Op, api.OK}
	}
	k.fuse, k.begun, k.half, k.reads, k.down = -1, nil, false, 0, false
}

// answer is what the book tells the server of a right message.
func (k *book) answer(m api.Msg) []api.Msg {
	if k.down {
		return nil
	}
	switch m.Kind {
	case api.ARead:
		return k.read(m)
	case api.AWrite:
		return k.write(m)
	case api.ADemote:
		if k.c.Mode == api.MExclusive && m.Level == 3 {
			k.cache.Put(api.Frame{Block: m.Block, Data: m.Data}, 3)
		}
	case api.ADrop:
		k.cache.Drop(m.Block)
	}
	return nil
}

func (k *book) read(m api.Msg) []api.Msg {
	if m.Block >= k.c.Blocks {
		return []api.Msg{noData(m.Block)}
	}
	f := api.Frame{Block: m.Block, Data: []byte(k.data[m.Block])}
	there := k.cache.Has(m.Block)
	if there {
		f.Data, _ = k.cache.Use(m.Block)
	} else {
		k.reads++
	}
	var told []api.Msg
	if k.c.Mode == api.MExclusive {
		k.exclude(f, m.Level)
	} else if !there {
		told = k.include(f)
	}
	return append(told, data(m.Block, string(f.Data)))
}

// exclude has a block be in the cache, if it is for the array, and not, if it isn't.
func (k *book) exclude(f api.Frame, level int) {
	if level != 3 {
		k.cache.Drop(f.Block)
	} else if _, _, e := k.cache.Put(f, 3); e == api.ErrNone {
		k.cache.Drop(f.Block)
	}
}

// include has a block be in the cache, and tells what the server is told of what goes.
func (k *book) include(f api.Frame) []api.Msg {
	victim, gone, _ := k.cache.Put(f, 0)
	if gone && k.c.Mode == api.MInclusive {
		return []api.Msg{inv(victim.Block)}
	}
	return nil
}

// refuses answers what is wrong with a write, whatever was written.
func (k *book) refuses(m api.Msg) api.Errno {
	switch {
	case m.Block >= k.c.Blocks:
		return api.ErrBlock
	case len(m.Data) != k.c.Size:
		return api.ErrSize
	case m.Client >= k.c.Clients || m.Slot >= k.c.Slots || m.Boot < 1 || m.Op < 1:
		return api.ErrArg
	}
	return api.OK
}

func (k *book) write(m api.Msg) []api.Msg {
	if e := k.refuses(m); e != api.OK {
		return []api.Msg{done(m, e, false)}
	}
	was := &k.slots[m.Client][m.Slot]
	switch {
	case m.Boot < was.boot || m.Boot == was.boot && m.Op < was.op:
		return nil
	case m.Boot == was.boot && m.Op == was.op:
		return []api.Msg{done(m, was.code, false)}
	case k.version[m.Block] == api.MaxVersion:
		if !k.burn(1) {
			k.down = true
			return nil
		}
		*was = last{m.Boot, m.Op, api.ErrLast}
		return []api.Msg{done(m, api.ErrLast, false)}
	}
	return k.goOn(m)
}

// goOn does a write for which a version is left: of its four sectors the first one is the journal's, the second one the block's.
func (k *book) goOn(m api.Msg) []api.Msg {
	left := k.fuse
	if k.down = !k.burn(4); k.down {
		if left > 0 {
			k.begun = &m
		}
		if k.half = left > 1; k.half {
			k.set(m)
		}
		return nil
	}
	k.set(m)
	k.slots[m.Client][m.Slot] = last{m.Boot, m.Op, api.OK}
	var told []api.Msg
	f := api.Frame{Block: m.Block, Data: m.Data}
	if k.c.Mode == api.MExclusive {
		k.exclude(f, m.Level)
	} else {
		told = k.include(f)
	}
	return append(told, done(m, api.OK, true))
}

// burn tells whether so many sectors can be written.
func (k *book) burn(n int) bool {
	switch {
	case k.fuse < 0:
		return true
	case k.fuse < n:
		return false
	}
	k.fuse -= n
	return true
}

// set has a block be what is written.
func (k *book) set(m api.Msg) {
	k.version[m.Block]++
	k.data[m.Block] = string(m.Data)
}

// check tells where the array is otherwise than the book.
func (k *book) check(t *testing.T, a *array.Array) {
	t.Helper()
	checkBlocks(t, a, k.cache.All()...)
	checkReads(t, a, k.reads)
	checkDown(t, a, k.down)
	for b := range k.c.Blocks {
		checkStored(t, a, b, k.data[b], k.version[b])
	}
}

// player plays messages, fuses and beginnings on an array and its book.
type player struct {
	t *testing.T
	r *rand.Rand
	d *sector.Disk
	a *array.Array
	k *book
}

// newPlayer has an array over a disk some of whose blocks have few versions left.
func newPlayer(t *testing.T, r *rand.Rand) *player {
	t.Helper()
	c := anyConfig(r)
	p := &player{t: t, r: r, d: sector.New(sectors), k: newBook(t, c)}
	for b := range c.Blocks {
		if r.Intn(6) == 0 {
			p.k.version[b], p.k.data[b] = api.MaxVersion-r.Intn(3), p.bytes(c.Size)
			p.d.Write(1+b, raw.PutText(raw.Put(nil, p.k.version[b]), []byte(p.k.data[b])))
		}
	}
	p.a = over(t, c, p.d)
	return p
}

// anyConfig is one that is right, of each mode, place and policy.
func anyConfig(r *rand.Rand) api.Config {
	c := api.Config{Clients: 1 + r.Intn(4), Slots: 1 + r.Intn(4), Blocks: 1 + r.Intn(12), Size: 1 + r.Intn(4), Mode: api.MExclusive,
		Policy: [3]int{1 + r.Intn(2), 1 + r.Intn(2), 1 + r.Intn(2)}, Cap: [3]int{1 + r.Intn(6), 1 + r.Intn(6), 1 + r.Intn(6)},
		Queues: 1 + r.Intn(8), Life: 1 + r.Intn(30), Ghost: r.Intn(17), Demote: 1, Place: r.Intn(3)}
	switch c.Place {
	case api.PAll:
		c.Mode = 1 + r.Intn(3)
	case api.PKarma:
		for from := 0; from < c.Blocks; from++ {
			if n := r.Intn(4); n > 0 && from+n <= c.Blocks && len(c.Hints) < 8 {
				c.Hints = append(c.Hints, api.Hint{From: from, Size: n, Often: r.Intn(9), Loop: r.Intn(2) == 0})
				from += n - 1
			}
		}
	}
	return c
}

func (p *player) bytes(n int) string {
	b := make([]byte, n)
	p.r.Read(b)
	return string(b)
}

// size is mostly a block's.
func (p *player) size() int {
	if p.r.Intn(15) == 0 {
		return p.r.Intn(6)
	}
	return p.k.c.Size
}

// message is one that is right, mostly about blocks and slots that there are.
func (p *player) message() api.Msg {
	r, c := p.r, p.k.c
	block, level := r.Intn(c.Blocks), r.Intn(5)
	if r.Intn(20) == 0 {
		block = r.Intn(api.MaxBlocks)
	}
	if r.Intn(3) == 0 {
		level = 3
	}
	switch r.Intn(12) {
	case 0, 1, 2, 3:
		return read(block, level)
	case 4, 5, 6, 7:
		return p.write(block, level)
	case 8, 9:
		// What is handed down is what was written last, or is no block.
		if n := p.size(); n != c.Size {
			return demote(block, level, p.bytes(n))
		}
		return demote(block, level, p.k.data[block])
	case 10:
		return drop(block)
	}
	return api.Msg{Kind: api.BDone, Client: 1, Block: block, Grant: true}
}

// write is one of a slot's: a newer one, the last one again, an older one.
func (p *player) write(block, level int) api.Msg {
	r, c := p.r, p.k.c
	m := api.Msg{Kind: api.AWrite, Client: r.Intn(c.Clients), Slot: r.Intn(c.Slots), Block: block, Level: level, Data: []byte(p.bytes(p.size()))}
	was := p.k.slots[m.Client][m.Slot]
	switch m.Boot, m.Op = max(was.boot, 1), was.op+1; r.Intn(8) {
	case 0, 1:
		m.Op = was.op
	case 2:
		m.Op = max(was.op-1, 0)
	case 3:
		m.Boot++
	case 4:
		m.Boot--
	}
	if r.Intn(20) == 0 {
		m.Client, m.Slot = r.Intn(4), r.Intn(4)
	}
	return m
}

// act does something to both, and tells where they are otherwise.
func (p *player) act() {
	p.t.Helper()
	switch {
	case p.k.down && p.r.Intn(3) == 0 || p.r.Intn(100) == 0:
		p.d.Up()
		p.k.beginAnew(p.t)
		p.a = over(p.t, p.k.c, p.d)
	case p.r.Intn(25) == 0 && !p.k.down:
		p.k.fuse = p.r.Intn(10)
		p.d.Fuse(p.k.fuse)
	default:
		m := p.message()
		checkHear(p.t, p.a, m, p.k.answer(m)...)
	}
	p.k.check(p.t, p.a)
}

// TestByTheBook: whatever is heard, in any order, wherever the disk goes down, is answered as the chapter's words say.
func TestByTheBook(t *testing.T) {
	for seed := range int64(600) {
		p := newPlayer(t, rand.New(rand.NewSource(seed)))
		for i := range 200 {
			if p.act(); t.Failed() {
				t.Fatalf("seed %d, %d, %+v", seed, i, p.k.c)
			}
		}
	}
}

// TestTheCacheIsTheStores: whatever was heard, each block that is held is told with the bytes that the store has, and no read of it counts.
func TestTheCacheIsTheStores(t *testing.T) {
	for seed := range int64(200) {
		p := newPlayer(t, rand.New(rand.NewSource(1000+seed)))
		for range 100 {
			p.act()
		}
		if p.k.down {
			continue
		}
		for _, b := range p.a.Blocks() {
			checkHeld(t, p.a, b, p.k.data[b])
		}
		for _, b := range p.a.Blocks() {
			checkHear(t, p.a, drop(b))
		}
		for b := range p.k.c.Blocks {
			checkHear(t, p.a, read(b, 1), data(b, p.k.data[b]))
			checkHear(t, p.a, drop(b))
		}
		if t.Failed() {
			t.Fatalf("seed %d, %+v", seed, p.k.c)
		}
	}
}

// TestEachShortTale: a few messages, in each order, up to a depth, on an array of each kind.
func TestEachShortTale(t *testing.T) {
	for _, c := range kinds() {
		c.Blocks, c.Size, c.Cap[2] = 3, 1, 1
		if c.Place == api.PKarma {
			c.Cap, c.Hints = [3]int{1, 1, 1}, []api.Hint{{From: 0, Size: 1, Often: 9}, {From: 1, Size: 2, Often: 1}}
		}
		eachTale(4, func(tale []api.Msg) {
			d := sector.New(sectors)
			a, k := over(t, c, d), newBook(t, c)
			for _, m := range tale {
				if m.Kind == api.ADemote {
					m.Data = []byte(k.data[m.Block])
				}
				if checkHear(t, a, m, k.answer(m)...); t.Failed() {
					t.Fatalf("%+v, %s", c, tell(tale))
				}
			}
			if k.check(t, a); t.Failed() {
				t.Fatalf("%+v, %s", c, tell(tale))
			}
		})
	}
}

// eachTale has f called with each one of so many messages, about two blocks; a write of the first is older than all others, and has bytes of its own.
func eachTale(depth int, f func([]api.Msg)) {
	var tale []api.Msg
	var goOn func(depth int)
	goOn = func(depth int) {
		if depth == 0 {
			f(tale)
			return
		}
		var next []api.Msg
		for b := 1; b < 3; b++ {
			next = append(next, drop(b), demote(b, 3, ""))
			for _, level := range []int{2, 3} {
				next = append(next, read(b, level), write(1+len(tale), b, level, string(rune('a'+depth))))
			}
		}
		next = append(next, write(1, 1, 3, "x"))
		for _, m := range next {
			tale = append(tale, m)
			goOn(depth - 1)
			tale = tale[:len(tale)-1]
		}
	}
	goOn(depth)
}

// TestTheSameEachTime: two that have been through the same answer the same, whatever is done to others between.
func TestTheSameEachTime(t *testing.T) {
	for seed := range int64(60) {
		p := newPlayer(t, rand.New(rand.NewSource(seed)))
		q := newPlayer(t, rand.New(rand.NewSource(seed)))
		other := newPlayer(t, rand.New(rand.NewSource(seed+1)))
		for i := range 150 {
			p.act()
			other.act()
			q.act()
			q.k.check(t, p.a)
			if t.Failed() {
				t.Fatalf("seed %d, %d", seed, i)
			}
		}
	}
}
