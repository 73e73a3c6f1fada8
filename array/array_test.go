package array_test

import (
	"bytes"
	"fmt"
	"math"
	"slices"
	"strings"
	"testing"

	"gradine/api"
	"gradine/array"
	"gradine/raw"
	"gradine/sector"
)

const (
	blocks  = 8 // of the tests' configurations
	size    = 2
	zero    = "\x00\x00" // a block's bytes at first
	sectors = 64
	great   = 1 << 40 // the greatest boot and the greatest number of a message
)

// modes are all that there are.
func modes() []int {
	return []int{api.MInclusive, api.MExclusive, api.MNine}
}

// levels are all that a message may have.
func levels() []int {
	return []int{0, 1, 2, 3, 4}
}

// plain is a configuration of that mode, whose array has an LRU of that capacity; the other tiers have others.
func plain(mode, capacity int) api.Config {
	return api.Config{Clients: 2, Slots: 3, Blocks: blocks, Size: size, Mode: mode, Policy: [3]int{api.MQ, api.MQ, api.LRU},
		Cap: [3]int{16 - capacity, 1 + capacity, capacity}, Queues: 3, Life: 50, Ghost: 4, Demote: 1}
}

// queued is plain, but for the array's policy, which is MQ.
func queued(mode, capacity int) api.Config {
	c := plain(mode, capacity)
	c.Policy = [3]int{api.LRU, api.LRU, api.MQ}
	return c
}

// leveled is plain with PUni.
func leveled(capacity int) api.Config {
	c := plain(api.MExclusive, capacity)
	c.Place = api.PUni
	return c
}

// parted is plain with PKarma: blocks 0 and 1 are in tier 1, 2 to 4 in the array, with room for two of them, 7 is in no range.
func parted() api.Config {
	c := plain(api.MExclusive, 2)
	c.Place, c.Cap = api.PKarma, [3]int{2, 1, 2}
	c.Hints = []api.Hint{{From: 2, Size: 3, Often: 1}, {From: 0, Size: 2, Often: 9}, {From: 5, Size: 1, Often: 5}}
	return c
}

func read(block, level int) api.Msg {
	return api.Msg{Kind: api.ARead, Block: block, Level: level}
}

// write is one of client 1's slot 2, of boot 3.
func write(op, block, level int, data string) api.Msg {
	return api.Msg{Kind: api.AWrite, Client: 1, Slot: 2, Boot: 3, Op: op, Block: block, Level: level, Data: []byte(data)}
}

func demote(block, level int, data string) api.Msg {
	return api.Msg{Kind: api.ADemote, Block: block, Level: level, Data: []byte(data)}
}

func drop(block int) api.Msg {
	return api.Msg{Kind: api.ADrop, Block: block}
}

// inv, data, noData and done are what the server is told.
func inv(block int) api.Msg {
	return api.Msg{Kind: api.BInv, Block: block}
}

func data(block int, b string) api.Msg {
	return api.Msg{Kind: api.BData, Block: block, Data: []byte(b)}
}

func noData(block int) api.Msg {
	return api.Msg{Kind: api.BData, Block: block, Code: api.ErrBlock}
}

func done(m api.Msg, code api.Errno, grant bool) api.Msg {
	return api.Msg{Kind: api.BDone, Client: m.Client, Slot: m.Slot, Boot: m.Boot, Op: m.Op, Block: m.Block, Code: code, Grant: grant}
}

// tell is messages as a text, with each field.
func tell(l []api.Msg) string {
	var words []string
	for _, m := range l {
		words = append(words, fmt.Sprintf("{%d of %d.%d.%d.%d %d %d %d %d %t %q}", m.Kind, m.Client, m.Slot, m.Boot, m.Op, m.Block, m.Level, m.Round, int(m.Code), m.Grant, m.Data))
	}
	return strings.Join(words, " ")
}

// same tells whether two messages are one.
func same(m, n api.Msg) bool {
	return m.Kind == n.Kind && m.Client == n.Client && m.Slot == n.Slot && m.Boot == n.Boot && m.Op == n.Op && m.Block == n.Block &&
		m.Level == n.Level && m.Round == n.Round && m.Code == n.Code && m.Grant == n.Grant && bytes.Equal(m.Data, n.Data)
}

func newArray(t *testing.T, c api.Config) *array.Array {
	t.Helper()
	return over(t, c, sector.New(sectors))
}

// over is an array over a disk that there is.
func over(t *testing.T, c api.Config, d *sector.Disk) *array.Array {
	t.Helper()
	a, e := array.New(c, d)
	if a == nil || e != api.OK {
		t.Fatalf("New(%v): %v %d", c, a, int(e))
	}
	return a
}

// checkHear tells where the server is told other things than these.
func checkHear(t *testing.T, a *array.Array, m api.Msg, want ...api.Msg) {
	t.Helper()
	if got := a.Hear(m); !slices.EqualFunc(got, want, same) {
		t.Errorf("Hear(%s): %s, not %s", tell([]api.Msg{m}), tell(got), tell(want))
	}
}

// checkBlocks tells where the cache has others than these, or in another order.
func checkBlocks(t *testing.T, a *array.Array, want ...int) {
	t.Helper()
	if got := a.Blocks(); !slices.Equal(got, want) {
		t.Errorf("Blocks: %v, not %v", got, want)
	}
}

func checkReads(t *testing.T, a *array.Array, want int) {
	t.Helper()
	if got := a.Reads(); got != want {
		t.Errorf("Reads: %d, not %d", got, want)
	}
}

func checkStored(t *testing.T, a *array.Array, block int, want string, version int) {
	t.Helper()
	if b, v, e := a.Stored(block); string(b) != want || v != version || e != api.OK {
		t.Errorf("Stored(%d): %q %d %d, not %q %d", block, b, v, int(e), want, version)
	}
}

func checkDown(t *testing.T, a *array.Array, want bool) {
	t.Helper()
	if a.Down() != want {
		t.Errorf("Down: %t", !want)
	}
}

// checkHeld tells where the cache's bytes of a block aren't these: they are read without the store.
func checkHeld(t *testing.T, a *array.Array, block int, want string) {
	t.Helper()
	reads := a.Reads()
	checkHear(t, a, read(block, 3), data(block, want))
	checkReads(t, a, reads)
}

// aged is a disk on which a block has that version, and these bytes.
func aged(t *testing.T, block, version int, b string) *sector.Disk {
	t.Helper()
	d := sector.New(sectors)
	if e := d.Write(1+block, raw.PutText(raw.Put(nil, version), []byte(b))); e != api.OK {
		t.Fatal(int(e))
	}
	return d
}

// TestExample is the chapter's.
func TestExample(t *testing.T) {
	a := newArray(t, plain(api.MInclusive, 2))
	checkHear(t, a, read(1, 0), data(1, zero))
	checkReads(t, a, 1)
}

// TestNew: a new one's cache is empty, nothing was read, and each block is as it is at first; there are no others.
func TestNew(t *testing.T) {
	for _, c := range kinds() {
		a := newArray(t, c)
		checkBlocks(t, a)
		checkReads(t, a, 0)
		checkDown(t, a, false)
		for b := range blocks {
			checkStored(t, a, b, zero, 0)
		}
		for _, b := range []int{-1, blocks, blocks + 1, 31, 32, math.MaxInt, math.MinInt} {
			if got, v, e := a.Stored(b); got != nil || v != 0 || e != api.ErrBlock {
				t.Errorf("Stored(%d): %q %d %d", b, got, v, int(e))
			}
		}
	}
}

// kinds are configurations of each kind, whose arrays have room for two blocks.
func kinds() []api.Config {
	return []api.Config{plain(1, 2), plain(2, 2), plain(3, 2), queued(1, 2), queued(2, 2), queued(3, 2), leveled(2), parted()}
}

// TestShapes: the store is of as many blocks, of that size, clients and slots, as the configuration has.
func TestShapes(t *testing.T) {
	for _, x := range [][4]int{{1, 1, 1, 1}, {4, 1, 32, 16}, {1, 4, 32, 1}, {4, 4, 32, 16}, {2, 3, 5, 7}} {
		c := plain(api.MInclusive, 2)
		c.Clients, c.Slots, c.Blocks, c.Size = x[0], x[1], x[2], x[3]
		a := newArray(t, c)
		m := api.Msg{Kind: api.AWrite, Client: x[0] - 1, Slot: x[1] - 1, Boot: great, Op: great, Block: x[2] - 1, Data: []byte(strings.Repeat("x", x[3]))}
		checkHear(t, a, m, done(m, api.OK, true))
		checkStored(t, a, x[2]-1, strings.Repeat("x", x[3]), 1)
	}
}

// TestStaysWritten: a new array over the same disk has what was written, and an empty cache; it reads it from the store.
func TestStaysWritten(t *testing.T) {
	for _, c := range kinds() {
		d := sector.New(sectors)
		a := over(t, c, d)
		checkHear(t, a, write(1, 3, 3, "ab"), done(write(1, 3, 3, ""), api.OK, true))
		a = over(t, c, d)
		checkBlocks(t, a)
		checkReads(t, a, 0)
		checkStored(t, a, 3, "ab", 1)
		checkHear(t, a, read(3, 0), data(3, "ab"))
		checkReads(t, a, 1)
		checkHear(t, a, write(1, 3, 3, "cd"), done(write(1, 3, 3, ""), api.OK, false))
		checkStored(t, a, 3, "ab", 1)
	}
}

// TestOthers: right messages of all other kinds are heard without an answer, and change nothing, in what is held, either.
func TestOthers(t *testing.T) {
	for _, c := range kinds() {
		a := newArray(t, c)
		checkHear(t, a, write(1, 3, 3, "ab"), done(write(1, 3, 3, ""), api.OK, true))
		want := a.Blocks()
		for _, m := range []api.Msg{
			{Kind: api.QRead, Slot: 1, Op: 1, Block: 3, Level: 3},
			{Kind: api.QWrite, Slot: 1, Op: 9, Block: 3, Level: 3, Data: []byte("xy")},
			{Kind: api.QDemote, Block: 4, Level: 3, Data: []byte("xy")},
			{Kind: api.QAck, Block: 3, Round: 1},
			{Kind: api.RData, Block: 3, Level: 3, Grant: true, Data: []byte("xy")},
			{Kind: api.RDone, Block: 3, Level: 3, Grant: true},
			{Kind: api.RInv, Block: 3, Round: 1},
			{Kind: api.BData, Block: 3, Data: []byte("xy")},
			{Kind: api.BDone, Block: 3, Grant: true},
			{Kind: api.BInv, Block: 3},
		} {
			checkHear(t, a, m)
			checkBlocks(t, a, want...)
		}
		checkReads(t, a, 0)
		checkStored(t, a, 3, "ab", 1)
		checkHear(t, a, read(3, 0), data(3, "ab"))
	}
}

// TestDrop: with each mode a block isn't in the cache any more then; one that isn't there, or that there is none of, is no harm.
func TestDrop(t *testing.T) {
	for _, c := range kinds() {
		a := newArray(t, c)
		for _, b := range []int{2, 3} {
			checkHear(t, a, read(b, 3), data(b, zero))
		}
		for _, b := range []int{4, 7, 8, 31} {
			checkHear(t, a, drop(b))
			checkBlocks(t, a, 3, 2)
		}
		checkHear(t, a, drop(2))
		checkBlocks(t, a, 3)
		checkHear(t, a, drop(2))
		checkHear(t, a, drop(3))
		checkBlocks(t, a)
		checkReads(t, a, 2)
		checkHear(t, a, read(3, 3), data(3, zero))
		checkReads(t, a, 3)
	}
}

// TestReads: only what the server's reads have from the store counts, not what is asked for, written or told wrong.
func TestReads(t *testing.T) {
	for _, c := range kinds() {
		a := newArray(t, c)
		for op := 1; op < 5; op++ {
			m := write(op, 2, 0, "ab")
			a.Hear(m)
			a.Hear(m)
			a.Hear(write(op-1, 2, 0, "ab"))
			a.Hear(write(op+1, blocks, 0, "ab"))
			a.Hear(drop(2))
			a.Stored(2)
			a.Stored(blocks)
			a.Hear(read(blocks, 3))
			a.Hear(demote(3, 3, zero))
			a.Hear(drop(3))
			checkReads(t, a, op-1)
			a.Hear(read(2, 0))
			checkReads(t, a, op)
			a.Hear(drop(2))
		}
	}
}
