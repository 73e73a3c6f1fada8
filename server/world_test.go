package server_test

import (
	"encoding/binary"
	"math/rand"
	"slices"
	"testing"

	"gradine/api"
	"gradine/array"
	"gradine/cache"
	"gradine/sector"
	"gradine/server"
)

// work is an operation of a client's slot.
type work struct {
	m     api.Msg // what is asked
	busy  bool
	since int // the least version that it may tell of: that of the last operation of its block that had ended when it began
}

// user is a client that is made for these tests: it holds what it was granted, and any block may go.
type user struct {
	boot  int
	up    bool
	held  map[int]string
	slots []work
	op    int
}

// world is a server with its array and clients; what they tell one another comes in order, some of what is handed down is lost.
type world struct {
	t       *testing.T
	r       *rand.Rand
	c       api.Config
	d       *sector.Disk
	a       *array.Array
	s       *server.Server
	users   []*user
	toArray []api.Msg
	toHere  []api.Msg   // of the array
	asks    [][]api.Msg // of each client
	replies [][]api.Msg // to each client
	writes  int
	at      int              // the block whose write is at the array; -1, if none is
	version []map[string]int // of each block: by the bytes that were written
	ended   []int            // of each block: the greatest version of which an operation that ended told
}

func newWorld(t *testing.T, r *rand.Rand) *world {
	t.Helper()
	c := anyConfig(r)
	c.Size = 2
	w := &world{t: t, r: r, c: c, d: sector.New(64), asks: make([][]api.Msg, c.Clients), replies: make([][]api.Msg, c.Clients), ended: make([]int, c.Blocks)}
	for range c.Blocks {
		w.version = append(w.version, map[string]int{zero: 0})
	}
	for range c.Clients {
		w.users = append(w.users, &user{held: map[int]string{}, slots: make([]work, c.Slots)})
	}
	w.beginServer(true)
	return w
}

const zero = "\x00\x00" // a block's bytes at first

// beginServer has the server begin anew, and the array, too, if that is to: all that is on its way is lost.
func (w *world) beginServer(arrayToo bool) {
	if arrayToo {
		w.d.Up()
		var e api.Errno
		if w.a, e = array.New(w.c, w.d); e != api.OK {
			w.t.Fatal(int(e))
		}
		for b := range w.c.Blocks {
			w.note(b)
		}
	}
	w.s = bare(w.t, w.c)
	w.toArray, w.toHere, w.at = nil, nil, -1
	for i := range w.users {
		w.cut(i)
	}
	w.send(w.s.ArrayUp())
}

// cut ends a client's session, if there is one.
func (w *world) cut(i int) {
	w.asks[i], w.replies[i] = nil, nil
	w.users[i].up, w.users[i].held = false, map[int]string{}
	w.send(w.s.Gone(i))
}

// join begins a client's session: what its slots are at is asked again.
func (w *world) join(i int) {
	u := w.users[i]
	if u.up {
		return
	}
	u.boot, u.up = max(u.boot, 1), true
	for _, x := range u.slots {
		if x.busy {
			w.asks[i] = append(w.asks[i], x.m)
		}
	}
	w.send(w.s.Up(i, u.boot))
}

// crash has a client begin anew: its operations are cut off.
func (w *world) crash(i int) {
	w.cut(i)
	w.users[i].boot++
	w.users[i].slots, w.users[i].op = make([]work, w.c.Slots), 0
}

// send has what the server told be on its way. What is handed down while its own write is at the array is lost: it would come there behind the write, with the bytes that were ahead of it (see TestDemoteMakesGoWhatIsWritten).
func (w *world) send(l []api.Told) {
	for _, x := range l {
		switch {
		case x.M.Kind == api.ADemote && (x.M.Block == w.at || w.r.Intn(5) == 0):
		case x.To == api.ToArray:
			w.toArray = append(w.toArray, x.M)
		default:
			w.replies[x.To] = append(w.replies[x.To], x.M)
		}
		if x.M.Kind == api.AWrite {
			w.at = x.M.Block
			w.checkAlone(w.at)
		}
	}
}

// checkAlone tells where a block is written while a client has it.
func (w *world) checkAlone(block int) {
	for i, u := range w.users {
		if _, is := u.held[block]; is {
			w.t.Errorf("block %d is written, and client %d has it", block, i)
		}
	}
	if l := w.s.Sharers(block); len(l) > 0 {
		w.t.Errorf("block %d is written, and %v share it", block, l)
	}
}

// note notes which version of a block has which bytes.
func (w *world) note(block int) {
	b, version, e := w.a.Stored(block)
	if e != api.OK {
		w.t.Fatal(int(e))
	}
	w.version[block][string(b)] = version
}

// begin has a client's slot read or write a block.
func (w *world) begin(i, slot int) {
	u, b := w.users[i], w.r.Intn(w.c.Blocks)
	if u.slots[slot].busy {
		return
	}
	u.op++
	m := api.Msg{Kind: api.QRead, Slot: slot, Op: u.op, Block: b, Level: w.level(b)}
	if w.r.Intn(3) == 0 {
		w.writes++
		m.Kind, m.Data = api.QWrite, binary.BigEndian.AppendUint16(nil, uint16(w.writes))
	}
	if data, is := u.held[b]; is && m.Kind == api.QRead {
		w.end(work{m: m, since: w.ended[b]}, data)
		return
	}
	u.slots[slot] = work{m: m, busy: true, since: w.ended[b]}
	if u.up {
		w.asks[i] = append(w.asks[i], m)
	}
}

// level is one at which a block may be asked for.
func (w *world) level(block int) int {
	switch {
	case w.c.Mode != api.MExclusive:
		return 0
	case w.c.Place == api.PUni:
		return 1 + w.r.Intn(4)
	}
	return cache.Target(w.c, block, 0)
}

// end tells where an operation that ends tells of an older version than it may, or of bytes that nobody wrote.
func (w *world) end(x work, data string) {
	b := x.m.Block
	version, is := w.version[b][data]
	switch {
	case !is:
		w.t.Errorf("block %d: %q was never written", b, data)
	case version < x.since || x.m.Kind == api.QWrite && version == x.since:
		w.t.Errorf("block %d: version %d behind %d", b, version, x.since)
	}
	w.ended[b] = max(w.ended[b], version)
}

// hear has a client hear what it is told.
func (w *world) hear(i int, m api.Msg) {
	u := w.users[i]
	if m.Kind == api.RInv {
		delete(u.held, m.Block)
		w.asks[i] = append(w.asks[i], qAck(m.Block, m.Round))
		return
	}
	x := &u.slots[m.Slot]
	if !x.busy || x.m.Op != m.Op {
		return
	}
	data := string(m.Data)
	if m.Kind == api.RDone {
		data = string(x.m.Data)
	}
	x.busy = false
	if m.Code != api.OK {
		w.t.Errorf("client %d: %s", i, tell(m))
		return
	}
	w.end(*x, data)
	if m.Grant {
		u.held[m.Block] = data
		w.makeRoom(i)
	}
}

// makeRoom has blocks go that a client has no room for; with MExclusive they are handed down, but not if a slot is at one of them.
func (w *world) makeRoom(i int) {
	u := w.users[i]
	for len(u.held) > w.c.Cap[0] {
		var l []int
		for b := range u.held {
			l = append(l, b)
		}
		slices.Sort(l)
		b := l[w.r.Intn(len(l))]
		data := u.held[b]
		delete(u.held, b)
		isAt := slices.ContainsFunc(u.slots, func(x work) bool { return x.busy && x.m.Block == b })
		if w.c.Mode == api.MExclusive && !isAt && w.r.Intn(5) > 0 {
			w.asks[i] = append(w.asks[i], qDemote(b, w.lower(b), data))
		}
	}
}

// lower is a level at which a block may be handed down.
func (w *world) lower(block int) int {
	if w.c.Place == api.PUni {
		return 2 + w.r.Intn(3)
	}
	return cache.Target(w.c, block, 1)
}

// deliver has something that is on its way come: whether there was anything.
func (w *world) deliver() bool {
	l := []*[]api.Msg{&w.toArray, &w.toHere}
	for i := range w.users {
		l = append(l, &w.asks[i], &w.replies[i])
	}
	from := w.r.Intn(len(l))
	for k := range l {
		k = (k + from) % len(l)
		if len(*l[k]) == 0 {
			continue
		}
		m := (*l[k])[0]
		*l[k] = (*l[k])[1:]
		switch {
		case k == 0:
			w.hearArray(m)
		case k == 1:
			if m.Kind == api.BDone {
				w.at = -1
			}
			w.send(w.s.Hear(api.ToArray, m))
		case k%2 == 0:
			w.send(w.s.Hear(k/2-1, m))
		default:
			w.hear(k/2-1, m)
		}
		return true
	}
	return false
}

// hearArray has the array hear what it is told; one that is down begins anew.
func (w *world) hearArray(m api.Msg) {
	told := w.a.Hear(m)
	w.toHere = append(w.toHere, told...)
	if m.Kind == api.AWrite {
		w.note(m.Block)
	}
	if w.a.Down() {
		w.beginServer(true)
	}
}

// act has something happen.
func (w *world) act() {
	i := w.r.Intn(w.c.Clients)
	switch n := w.r.Intn(300); {
	case n < 60:
		w.begin(i, w.r.Intn(w.c.Slots))
	case n < 64:
		w.crash(i)
	case n < 90:
		w.join(i)
	case n < 91:
		w.beginServer(false)
	case n < 92:
		w.beginServer(true)
	case n < 93:
		w.d.Fuse(w.r.Intn(8))
	default:
		w.deliver()
	}
}

// rest has all that is on its way come, till nothing is.
func (w *world) rest() {
	w.d.Fuse(-1)
	for i := range w.users {
		w.join(i)
	}
	for range 10000 {
		if !w.deliver() {
			return
		}
		for i := range w.users {
			w.join(i)
		}
	}
	w.t.Error("there is no end of it")
}

// checkRest tells where something isn't as it is to be when all is quiet.
func (w *world) checkRest() {
	checkWaits(w.t, w.s, 0, false)
	here, below := w.s.Blocks(), w.a.Blocks()
	for i, u := range w.users {
		if slices.ContainsFunc(u.slots, func(x work) bool { return x.busy }) {
			w.t.Errorf("client %d isn't at its end", i)
		}
		for b := range u.held {
			if !has(w.s.Sharers(b), i) {
				w.t.Errorf("client %d has block %d, and doesn't share it", i, b)
			}
			if w.c.Mode == api.MInclusive && !has(here, b) {
				w.t.Errorf("client %d has block %d, the server hasn't", i, b)
			}
			// With PUni these clients ask for a block at whatever level, also for one that they are to have.
			if w.c.Mode == api.MExclusive && w.c.Place != api.PUni && w.c.Clients == 1 && (has(here, b) || has(below, b)) {
				w.t.Errorf("block %d is in two tiers", b)
			}
		}
	}
	for _, b := range here {
		if has(below, b) == (w.c.Mode == api.MExclusive) && w.c.Mode != api.MNine {
			w.t.Errorf("mode %d: block %d is at the server, at the array: %t", w.c.Mode, b, has(below, b))
		}
	}
}

// TestWithAnArray: with a true array and clients of various ways, whoever begins anew, and wherever the disk goes down: each operation tells of what was written last, or since; a write goes to the array only when no client has its block; in the end all is quiet, and the tiers are within one another, or apart, as the mode says.
func TestWithAnArray(t *testing.T) {
	for seed := range int64(500) {
		w := newWorld(t, rand.New(rand.NewSource(seed)))
		for range 4 {
			for range 300 {
				if w.act(); t.Failed() {
					t.Fatalf("seed %d, %+v", seed, w.c)
				}
			}
			w.rest()
			if w.checkRest(); t.Failed() {
				t.Fatalf("seed %d, %+v", seed, w.c)
			}
		}
	}
}
