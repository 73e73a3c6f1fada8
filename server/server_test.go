package server_test

import (
	"bytes"
	"fmt"
	"slices"
	"strings"
	"testing"

	"gradine/api"
	"gradine/server"
)

const (
	clients = 3 // of the tests' configurations
	slots   = 2
	blocks  = 8
	size    = 2
	great   = 1 << 40 // the greatest boot, number and round of a message
)

// modes are all that there are.
func modes() []int {
	return []int{api.MInclusive, api.MExclusive, api.MNine}
}

// levels are all that a message may have.
func levels() []int {
	return []int{0, 1, 2, 3, 4}
}

// plain is a configuration of that mode, whose server has an LRU of that capacity; the other tiers have others.
func plain(mode, capacity int) api.Config {
	return api.Config{Clients: clients, Slots: slots, Blocks: blocks, Size: size, Mode: mode, Policy: [3]int{api.MQ, api.LRU, api.MQ},
		Cap: [3]int{16 - capacity, capacity, 1 + capacity}, Queues: 3, Life: 50, Ghost: 4, Demote: 1}
}

// queued is plain, but for the server's policy, which is MQ.
func queued(mode, capacity int) api.Config {
	c := plain(mode, capacity)
	c.Policy = [3]int{api.LRU, api.MQ, api.LRU}
	return c
}

// leveled is plain with PUni.
func leveled(capacity int) api.Config {
	c := plain(api.MExclusive, capacity)
	c.Place = api.PUni
	return c
}

// parted is plain with PKarma: blocks 0 and 1 are in tier 1, 2 to 5 in tiers 2 and 3, with room for two of them in 2, 7 is in no range.
func parted() api.Config {
	c := plain(api.MExclusive, 2)
	c.Place, c.Cap = api.PKarma, [3]int{2, 2, 1}
	c.Hints = []api.Hint{{From: 2, Size: 4, Often: 1}, {From: 0, Size: 2, Often: 9}}
	return c
}

// kinds are configurations of each kind, whose servers have room for two blocks.
func kinds() []api.Config {
	return []api.Config{plain(1, 2), plain(2, 2), plain(3, 2), queued(1, 2), queued(2, 2), queued(3, 2), leveled(2), parted()}
}

// exclusives are those with MExclusive.
func exclusives() []api.Config {
	return []api.Config{plain(2, 2), queued(2, 2), leveled(2), parted()}
}

// What the server hears.

func qRead(slot, op, block, level int) api.Msg {
	return api.Msg{Kind: api.QRead, Slot: slot, Op: op, Block: block, Level: level}
}

func qWrite(slot, op, block, level int, data string) api.Msg {
	return api.Msg{Kind: api.QWrite, Slot: slot, Op: op, Block: block, Level: level, Data: []byte(data)}
}

func qDemote(block, level int, data string) api.Msg {
	return api.Msg{Kind: api.QDemote, Block: block, Level: level, Data: []byte(data)}
}

func qAck(block, round int) api.Msg {
	return api.Msg{Kind: api.QAck, Block: block, Round: round}
}

func bData(block int, data string) api.Msg {
	return api.Msg{Kind: api.BData, Block: block, Data: []byte(data)}
}

func bNone(block int, code api.Errno) api.Msg {
	return api.Msg{Kind: api.BData, Block: block, Code: code}
}

// bDone is what the array tells of a client's write, which asked for it with that boot.
func bDone(client, boot int, q api.Msg, code api.Errno, grant bool) api.Msg {
	return api.Msg{Kind: api.BDone, Client: client, Slot: q.Slot, Boot: boot, Op: q.Op, Block: q.Block, Code: code, Grant: grant}
}

func bInv(block int) api.Msg {
	return api.Msg{Kind: api.BInv, Block: block}
}

// What it tells.

// rData answers a client's read.
func rData(client int, q api.Msg, code api.Errno, grant bool, data string) api.Told {
	return api.Told{To: client, M: api.Msg{Kind: api.RData, Slot: q.Slot, Op: q.Op, Block: q.Block, Level: q.Level, Code: code, Grant: grant, Data: []byte(data)}}
}

// rDone answers a client's write.
func rDone(client int, q api.Msg, code api.Errno, grant bool) api.Told {
	return api.Told{To: client, M: api.Msg{Kind: api.RDone, Slot: q.Slot, Op: q.Op, Block: q.Block, Level: q.Level, Code: code, Grant: grant}}
}

func rInv(client, block, round int) api.Told {
	return api.Told{To: client, M: api.Msg{Kind: api.RInv, Block: block, Round: round}}
}

func aRead(block, level int) api.Told {
	return api.Told{To: api.ToArray, M: api.Msg{Kind: api.ARead, Block: block, Level: level}}
}

// aWrite is a client's write, which asked for it with that boot.
func aWrite(client, boot int, q api.Msg) api.Told {
	return api.Told{To: api.ToArray, M: api.Msg{Kind: api.AWrite, Client: client, Slot: q.Slot, Boot: boot, Op: q.Op, Block: q.Block, Level: q.Level, Data: q.Data}}
}

func aDemote(block int, data string) api.Told {
	return api.Told{To: api.ToArray, M: api.Msg{Kind: api.ADemote, Block: block, Level: 3, Data: []byte(data)}}
}

func aDrop(block int) api.Told {
	return api.Told{To: api.ToArray, M: api.Msg{Kind: api.ADrop, Block: block}}
}

// tell is a message as a text, with each field.
func tell(m api.Msg) string {
	return fmt.Sprintf("{%d of %d.%d.%d.%d %d %d %d %d %t %q}", m.Kind, m.Client, m.Slot, m.Boot, m.Op, m.Block, m.Level, m.Round, int(m.Code), m.Grant, m.Data)
}

// tellAll is what was told, and to whom, as a text.
func tellAll(l []api.Told) string {
	var words []string
	for _, x := range l {
		words = append(words, fmt.Sprintf("to %d %s", x.To, tell(x.M)))
	}
	return "[" + strings.Join(words, " ") + "]"
}

// same tells whether two are told the same.
func same(a, b api.Told) bool {
	m, n := a.M, b.M
	return a.To == b.To && m.Kind == n.Kind && m.Client == n.Client && m.Slot == n.Slot && m.Boot == n.Boot && m.Op == n.Op && m.Block == n.Block &&
		m.Level == n.Level && m.Round == n.Round && m.Code == n.Code && m.Grant == n.Grant && bytes.Equal(m.Data, n.Data)
}

// bare is a server without sessions.
func bare(t *testing.T, c api.Config) *server.Server {
	t.Helper()
	s, e := server.New(c)
	if s == nil || e != api.OK {
		t.Fatalf("New(%v): %v %d", c, s, int(e))
	}
	return s
}

// ready is a server that is: client i's boot is 10 + i.
func ready(t *testing.T, c api.Config) *server.Server {
	t.Helper()
	s := bare(t, c)
	for i := range c.Clients {
		checkTold(t, "Up", s.Up(i, 10+i))
	}
	checkTold(t, "ArrayUp", s.ArrayUp())
	checkReady(t, s, true)
	return s
}

// checkTold tells where others were told than these, or other things.
func checkTold(t *testing.T, what string, got []api.Told, want ...api.Told) {
	t.Helper()
	if !slices.EqualFunc(got, want, same) {
		t.Errorf("%s: %s, not %s", what, tellAll(got), tellAll(want))
	}
}

func checkHear(t *testing.T, s *server.Server, from int, m api.Msg, want ...api.Told) {
	t.Helper()
	checkTold(t, fmt.Sprintf("Hear(%d, %s)", from, tell(m)), s.Hear(from, m), want...)
}

// checkArray is checkHear of what the array tells.
func checkArray(t *testing.T, s *server.Server, m api.Msg, want ...api.Told) {
	t.Helper()
	checkHear(t, s, api.ToArray, m, want...)
}

// checkBlocks tells where the cache has others than these, or in another order.
func checkBlocks(t *testing.T, s *server.Server, want ...int) {
	t.Helper()
	if got := s.Blocks(); !slices.Equal(got, want) {
		t.Errorf("Blocks: %v, not %v", got, want)
	}
}

func checkSharers(t *testing.T, s *server.Server, block int, want ...int) {
	t.Helper()
	if got := s.Sharers(block); !slices.Equal(got, want) {
		t.Errorf("Sharers(%d): %v, not %v", block, got, want)
	}
}

// checkWaits tells where other than so many wait, or the server isn't as busy.
func checkWaits(t *testing.T, s *server.Server, queue int, busy bool) {
	t.Helper()
	if s.Queue() != queue || s.Busy() != busy {
		t.Errorf("Queue: %d, Busy: %t, not %d, %t", s.Queue(), s.Busy(), queue, busy)
	}
}

func checkReady(t *testing.T, s *server.Server, want bool) {
	t.Helper()
	if s.Ready() != want {
		t.Errorf("Ready: %t", !want)
	}
}

// fetch has a client read a block that the cache hasn't; the array's bytes are these. It answers what is told then.
func fetch(t *testing.T, s *server.Server, client, block, level int, data string) []api.Told {
	t.Helper()
	checkHear(t, s, client, qRead(0, 1, block, level), aRead(block, level))
	return s.Hear(api.ToArray, bData(block, data))
}

// checkHeld tells where the cache hasn't these blocks, with these bytes, in this order: client 0 reads them from the last one on, so that the order stays; all that it shares is shared then.
func checkHeld(t *testing.T, s *server.Server, want ...api.Frame) {
	t.Helper()
	var l []int
	for _, f := range want {
		l = append(l, f.Block)
	}
	checkBlocks(t, s, l...)
	for _, f := range slices.Backward(want) {
		q := qRead(1, 99, f.Block, 2)
		if got := s.Hear(0, q); len(got) != 1 || string(got[0].M.Data) != string(f.Data) {
			t.Errorf("block %d: %s, not %q", f.Block, tellAll(got), f.Data)
		}
	}
}

// share has a client share a block, as the array's bytes of it are read for tier 1: with MExclusive it isn't below then.
func share(t *testing.T, s *server.Server, client, block int) {
	t.Helper()
	checkTold(t, "share", fetch(t, s, client, block, 1, "zz"), rData(client, qRead(0, 1, block, 1), api.OK, true, "zz"))
}

// checkBelow tells where, with MExclusive, a block may be below, or not, otherwise than this: a client that shares it hands it down to the server, which takes it.
func checkBelow(t *testing.T, s *server.Server, client, block int, want bool) {
	t.Helper()
	got := s.Hear(client, qDemote(block, 2, "zz"))
	if is := len(got) > 0 && same(got[0], aDrop(block)); is != want {
		t.Errorf("block %d may be below: %t (%s)", block, is, tellAll(got))
	}
	if s.Blocks()[0] != block {
		t.Errorf("block %d isn't the first one of %v", block, s.Blocks())
	}
}

func frame(block int, data string) api.Frame {
	return api.Frame{Block: block, Data: []byte(data)}
}

// TestExample is the chapter's.
func TestExample(t *testing.T) {
	for _, mode := range modes() {
		c := plain(mode, 2)
		c.Clients = 1
		s := bare(t, c)
		checkTold(t, "Up", s.Up(0, 1))
		checkTold(t, "ArrayUp", s.ArrayUp())
		checkHear(t, s, 0, qRead(0, 1, 1, 0), aRead(1, 0))
	}
}

// TestNew: a new one has no blocks, nobody shares any, nothing waits, and there are no sessions.
func TestNew(t *testing.T) {
	for _, c := range kinds() {
		s := bare(t, c)
		checkBlocks(t, s)
		checkWaits(t, s, 0, false)
		checkReady(t, s, false)
		for b := range blocks {
			checkSharers(t, s, b)
		}
	}
}

// TestShapes: there are as many clients, slots and blocks as the configuration has.
func TestShapes(t *testing.T) {
	for _, x := range [][3]int{{1, 1, 1}, {4, 1, 32}, {1, 4, 32}, {4, 4, 32}, {2, 3, 5}} {
		c := plain(api.MInclusive, 2)
		c.Clients, c.Slots, c.Blocks = x[0], x[1], x[2]
		s := ready(t, c)
		q := qRead(x[1]-1, great, x[2]-1, 4)
		checkHear(t, s, x[0]-1, q, aRead(x[2]-1, 4))
		checkArray(t, s, bData(x[2]-1, "ab"), rData(x[0]-1, q, api.OK, true, "ab"))
		checkSharers(t, s, x[2]-1, x[0]-1)
		checkBlocks(t, s, x[2]-1)
	}
}

// TestCapacity: the cache has as many blocks as tier 2's capacity, whatever the other tiers have.
func TestCapacity(t *testing.T) {
	for _, mode := range []int{api.MInclusive, api.MNine} {
		for capacity := 1; capacity < blocks; capacity++ {
			s := ready(t, plain(mode, capacity))
			for b := range blocks {
				fetch(t, s, 0, b, 0, "ab")
				if mode == api.MInclusive && b >= capacity {
					checkHear(t, s, 0, qAck(b-capacity, b+1-capacity))
				}
				if got := len(s.Blocks()); got != min(b+1, capacity) {
					t.Fatalf("mode %d, capacity %d: %d blocks behind %d", mode, capacity, got, b+1)
				}
			}
		}
	}
}

// TestOneAtATime: what is asked while the server is at a request waits, and is begun in the order in which it came.
func TestOneAtATime(t *testing.T) {
	for _, c := range kinds() {
		s := ready(t, c)
		first, second, third := qRead(0, 1, 7, 4), qWrite(1, 2, 6, 4, "cd"), qRead(0, 3, 7, 4)
		checkHear(t, s, 1, first, aRead(7, 4))
		checkWaits(t, s, 0, true)
		checkHear(t, s, 0, second)
		checkWaits(t, s, 1, true)
		checkHear(t, s, 2, third)
		checkWaits(t, s, 2, true)
		grant := c.Mode != api.MExclusive
		checkArray(t, s, bData(7, "ab"), rData(1, first, api.OK, grant, "ab"), aWrite(0, 10, second))
		checkWaits(t, s, 1, true)
		// With MExclusive block 7 is in no cache of the server's, so that it is asked for once more.
		last := []api.Told{rDone(0, second, api.OK, grant), aRead(7, 4)}
		if c.Mode != api.MExclusive {
			last[1] = rData(2, third, api.OK, true, "ab")
		}
		checkArray(t, s, bDone(0, 10, second, api.OK, true), last...)
		checkWaits(t, s, 0, c.Mode == api.MExclusive)
	}
}

// TestManyAtOnce: what needs neither the array nor a client is at its end at once, one behind the other, as soon as the server is at nothing.
func TestManyAtOnce(t *testing.T) {
	s := ready(t, plain(api.MNine, 2))
	fetch(t, s, 0, 3, 0, "ab")
	one, two, three, four := qRead(0, 1, 4, 0), qRead(1, 2, 3, 1), qRead(0, 3, 4, 2), qWrite(1, 4, 5, 3, "ef")
	checkHear(t, s, 1, one, aRead(4, 0))
	checkHear(t, s, 2, two)
	checkHear(t, s, 2, three)
	checkArray(t, s, bInv(6))
	checkHear(t, s, 1, four)
	checkWaits(t, s, 4, true)
	checkArray(t, s, bData(4, "cd"), rData(1, one, api.OK, true, "cd"), rData(2, two, api.OK, true, "ab"), rData(2, three, api.OK, true, "cd"), aWrite(1, 11, four))
	checkWaits(t, s, 0, true)
	checkSharers(t, s, 3, 0, 2)
	checkSharers(t, s, 4, 1, 2)
}
