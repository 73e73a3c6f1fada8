package store_test

import (
	"bytes"
	"math"
	"slices"
	"testing"

	"gradine/api"
	"gradine/sector"
	"gradine/store"
)

const great = 1 << 40 // the greatest boot, and the greatest number of a write

// plain is the shape that most tests take; its blocks have the sectors 1 to 3, its slots 4 to 7.
var plain = store.Shape{Blocks: 3, Size: 2, Clients: 2, Slots: 2}

// sectors tells how many a shape takes.
func sectors(s store.Shape) int {
	return 1 + s.Blocks + s.Clients*s.Slots
}

func open(t *testing.T, d *sector.Disk, shape store.Shape) *store.Store {
	t.Helper()
	s, e := store.Open(d, shape)
	if s == nil || e != api.OK {
		t.Fatalf("Open(%v): %d", shape, int(e))
	}
	return s
}

// fresh is a store on a new disk that is just large enough.
func fresh(t *testing.T, shape store.Shape) (*sector.Disk, *store.Store) {
	t.Helper()
	d := sector.New(sectors(shape))
	return d, open(t, d, shape)
}

// write is one by client 0, slot 0, boot 1.
func write(op, block int, s string) api.Write {
	return api.Write{Boot: 1, Op: op, Block: block, Data: []byte(s)}
}

func checkOpen(t *testing.T, d *sector.Disk, shape store.Shape, want api.Errno) {
	t.Helper()
	s, e := store.Open(d, shape)
	if e != want || (s != nil) != (want == api.OK) {
		t.Errorf("Open(%v): %v, %d, not %d", shape, s != nil, int(e), int(want))
	}
}

func checkWrite(t *testing.T, s *store.Store, w api.Write, wantCode, want api.Errno) {
	t.Helper()
	if code, e := s.Write(w); code != wantCode || e != want {
		t.Errorf("Write(%v): %d %d, not %d %d", w, int(code), int(e), int(wantCode), int(want))
	}
}

func checkRead(t *testing.T, s *store.Store, block int, want string, wantVersion int) {
	t.Helper()
	if b, v, e := s.Read(block); string(b) != want || v != wantVersion || e != api.OK {
		t.Errorf("Read(%d): %q %d %d, not %q %d", block, b, v, int(e), want, wantVersion)
	}
}

// checkRefused tells where a write isn't answered so, or changes a sector, or uses up some of a fuse.
func checkRefused(t *testing.T, d *sector.Disk, s *store.Store, w api.Write, wantCode, want api.Errno) {
	t.Helper()
	was := held(t, d)
	d.Fuse(0)
	checkWrite(t, s, w, wantCode, want)
	if d.Down() || !slices.Equal(held(t, d), was) {
		t.Errorf("Write(%v): something was written", w)
	}
	d.Fuse(-1)
}

// held is what all sectors of a disk hold.
func held(t *testing.T, d *sector.Disk) []string {
	t.Helper()
	var l []string
	for at := range d.Len() {
		b, e := d.Read(at)
		if e != api.OK {
			t.Fatalf("sector %d: %d", at, int(e))
		}
		l = append(l, string(b))
	}
	return l
}

func TestOpenOfNoDisk(t *testing.T) {
	checkOpen(t, nil, plain, api.ErrNil)
	checkOpen(t, nil, store.Shape{}, api.ErrNil)
}

// bound is the most that a field of a shape may be, and what puts a number there.
type bound struct {
	most int
	put  func(s *store.Shape, n int)
}

// bounds are those of all fields.
func bounds() []bound {
	return []bound{
		{32, func(s *store.Shape, n int) { s.Blocks = n }},
		{16, func(s *store.Shape, n int) { s.Size = n }},
		{4, func(s *store.Shape, n int) { s.Clients = n }},
		{4, func(s *store.Shape, n int) { s.Slots = n }},
	}
}

// TestOpenOfWrongShapes: a number beyond its bounds, also where the disk has sectors enough.
func TestOpenOfWrongShapes(t *testing.T) {
	for _, b := range bounds() {
		for _, n := range []int{0, -1, -2, math.MinInt, b.most + 1, b.most + 2, 256, 1 << 32, 1 << 61, 1 << 62, math.MaxInt} {
			shape := plain
			b.put(&shape, n)
			checkOpen(t, sector.New(256), shape, api.ErrArg)
		}
	}
	checkOpen(t, sector.New(256), store.Shape{}, api.ErrArg)
}

func TestOpenOfShapesAtTheBounds(t *testing.T) {
	for _, b := range bounds() {
		for n := 1; n <= b.most; n++ {
			shape := plain
			b.put(&shape, n)
			checkOpen(t, sector.New(sectors(shape)), shape, api.OK)
		}
	}
}

// TestOpenOfTooFewSectors: one less than the shape takes is too few, whatever stands on them; more are none too many.
func TestOpenOfTooFewSectors(t *testing.T) {
	for _, shape := range []store.Shape{plain, {Blocks: 1, Size: 1, Clients: 1, Slots: 1}, {Blocks: 32, Size: 16, Clients: 4, Slots: 4}, {Blocks: 5, Size: 3, Clients: 1, Slots: 4}, {Blocks: 5, Size: 3, Clients: 4, Slots: 1}} {
		n := sectors(shape)
		for few := range n {
			d := sector.New(few)
			checkOpen(t, d, shape, api.ErrArg)
		}
		for _, enough := range []int{n, n + 1, n + 20, 256} {
			checkOpen(t, sector.New(enough), shape, api.OK)
		}
	}
}

// TestOpenRefusedWritesNothing: not even what the journal has.
func TestOpenRefusedWritesNothing(t *testing.T) {
	d, s := fresh(t, plain)
	d.Fuse(1)
	checkWrite(t, s, write(1, 1, "ab"), api.OK, api.ErrDown)
	d.Up()
	was := held(t, d)
	larger := plain
	larger.Blocks++
	checkOpen(t, d, larger, api.ErrArg)
	checkOpen(t, d, store.Shape{Blocks: 3, Size: 2, Clients: 2}, api.ErrArg)
	if !slices.Equal(held(t, d), was) {
		t.Errorf("%q, not %q", held(t, d), was)
	}
}

// TestNew: all blocks are as they begin, and nothing stands on the disk.
func TestNew(t *testing.T) {
	for _, shape := range []store.Shape{plain, {Blocks: 1, Size: 1, Clients: 1, Slots: 1}, {Blocks: 32, Size: 16, Clients: 4, Slots: 4}} {
		d, s := fresh(t, shape)
		for block := range shape.Blocks {
			checkRead(t, s, block, string(make([]byte, shape.Size)), 0)
		}
		if s.Down() || !slices.Equal(held(t, d), make([]string, d.Len())) {
			t.Errorf("%v: %q", shape, held(t, d))
		}
	}
}

func TestWriteAndRead(t *testing.T) {
	_, s := fresh(t, plain)
	checkWrite(t, s, write(1, 2, "ab"), api.OK, api.OK)
	checkRead(t, s, 2, "ab", 1)
	checkWrite(t, s, write(1, 2, "ab"), api.OK, api.OK)
	checkRead(t, s, 2, "ab", 1)
	checkWrite(t, s, write(2, 2, "ab"), api.OK, api.OK)
	checkRead(t, s, 2, "ab", 2)
	checkWrite(t, s, write(3, 0, "\x00\xff"), api.OK, api.OK)
	checkRead(t, s, 0, "\x00\xff", 1)
	checkRead(t, s, 1, "\x00\x00", 0)
	checkRead(t, s, 2, "ab", 2)
}

// TestEachBlockAndSlotIsItsOwn: each slot writes each block, and the same number is another write of another slot.
func TestEachBlockAndSlotIsItsOwn(t *testing.T) {
	for _, shape := range []store.Shape{plain, {Blocks: 32, Size: 16, Clients: 4, Slots: 4}, {Blocks: 2, Size: 1, Clients: 1, Slots: 4}, {Blocks: 2, Size: 1, Clients: 4, Slots: 1}} {
		_, s := fresh(t, shape)
		version := 0
		for client := range shape.Clients {
			for slot := range shape.Slots {
				version++
				for block := range shape.Blocks {
					data := bytes.Repeat([]byte{byte(version + block)}, shape.Size)
					w := api.Write{Client: client, Slot: slot, Boot: 1, Op: block + 1, Block: block, Data: data}
					checkWrite(t, s, w, api.OK, api.OK)
					checkRead(t, s, block, string(data), version)
					if block+1 < shape.Blocks {
						last, v, _ := s.Read(block + 1)
						if v != version-1 || version > 1 && last[0] != byte(version+block) {
							t.Errorf("block %d: %x %d", block+1, last, v)
						}
					}
				}
			}
		}
	}
}

// TestNoSuchBlock: of a read and a write; also where nothing else is right.
func TestNoSuchBlock(t *testing.T) {
	d, s := fresh(t, plain)
	for _, block := range []int{-1, -2, 3, 4, 31, 32, 256, 1 << 32, math.MaxInt, math.MinInt} {
		if b, v, e := s.Read(block); len(b) != 0 || v != 0 || e != api.ErrBlock {
			t.Errorf("Read(%d): %q %d %d", block, b, v, int(e))
		}
		checkRefused(t, d, s, write(1, block, "ab"), api.OK, api.ErrBlock)
		checkRefused(t, d, s, api.Write{Client: 9, Slot: -1, Block: block, Data: []byte("abc")}, api.OK, api.ErrBlock)
	}
	whole, t32 := fresh(t, store.Shape{Blocks: 32, Size: 2, Clients: 1, Slots: 1})
	checkRefused(t, whole, t32, write(1, 32, "ab"), api.OK, api.ErrBlock)
	checkWrite(t, t32, write(1, 31, "ab"), api.OK, api.OK)
}

// TestNotABlocksSize: also where the client and the rest aren't right either.
func TestNotABlocksSize(t *testing.T) {
	for size := 1; size <= 16; size++ {
		d, s := fresh(t, store.Shape{Blocks: 2, Size: size, Clients: 1, Slots: 1})
		for _, n := range []int{0, 1, size - 1, size + 1, 16, 17, 64, 65, 1 << 16} {
			if n == size {
				continue
			}
			data := string(bytes.Repeat([]byte("a"), n))
			checkRefused(t, d, s, write(1, 1, data), api.OK, api.ErrSize)
			checkRefused(t, d, s, api.Write{Client: 5, Slot: 5, Block: 1, Data: []byte(data)}, api.OK, api.ErrSize)
		}
		checkWrite(t, s, write(1, 1, string(make([]byte, size))), api.OK, api.OK)
	}
	d, s := fresh(t, plain)
	checkRefused(t, d, s, api.Write{Boot: 1, Op: 1}, api.OK, api.ErrSize)
	checkWrite(t, s, api.Write{Boot: 1, Op: 1, Data: make([]byte, 2, 100)}, api.OK, api.OK)
}

// TestRoomOfDataIsNotItsLength: spare room neither makes up for bytes that are missing, nor counts.
func TestRoomOfDataIsNotItsLength(t *testing.T) {
	d, s := fresh(t, plain)
	all := []byte("abcdef")
	checkRefused(t, d, s, api.Write{Boot: 1, Op: 1, Data: all[:1]}, api.OK, api.ErrSize)
	checkRefused(t, d, s, api.Write{Boot: 1, Op: 1, Data: all[:3:3]}, api.OK, api.ErrSize)
	checkWrite(t, s, api.Write{Boot: 1, Op: 1, Data: all[2:4]}, api.OK, api.OK)
	checkRead(t, s, 0, "cd", 1)
}

func TestNoSuchSlot(t *testing.T) {
	shape := store.Shape{Blocks: 3, Size: 2, Clients: 2, Slots: 3}
	d, s := fresh(t, shape)
	for _, n := range []int{-1, -2, 4, 5, 256, 1 << 32, math.MaxInt, math.MinInt, 1 << 61, 1 << 62} {
		checkRefused(t, d, s, api.Write{Client: n, Boot: 1, Op: 1, Data: []byte("ab")}, api.OK, api.ErrArg)
		checkRefused(t, d, s, api.Write{Slot: n, Boot: 1, Op: 1, Data: []byte("ab")}, api.OK, api.ErrArg)
	}
	checkRefused(t, d, s, api.Write{Client: 2, Boot: 1, Op: 1, Data: []byte("ab")}, api.OK, api.ErrArg)
	checkRefused(t, d, s, api.Write{Slot: 3, Boot: 1, Op: 1, Data: []byte("ab")}, api.OK, api.ErrArg)
	checkWrite(t, s, api.Write{Client: 1, Slot: 2, Boot: 1, Op: 1, Data: []byte("ab")}, api.OK, api.OK)
}

// TestBootsAndNumbersAtTheBounds: they go from 1 to 2^40; what is wrong is told ahead of what is old.
func TestBootsAndNumbersAtTheBounds(t *testing.T) {
	d, s := fresh(t, plain)
	checkWrite(t, s, api.Write{Boot: 2, Op: 2, Data: []byte("ab")}, api.OK, api.OK)
	for _, n := range []int{0, -1, math.MinInt, great + 1, great + 2, 1 << 62, math.MaxInt} {
		for _, right := range []int{1, 2, 3, great} {
			checkRefused(t, d, s, api.Write{Boot: n, Op: right, Data: []byte("ab")}, api.OK, api.ErrArg)
			checkRefused(t, d, s, api.Write{Boot: right, Op: n, Data: []byte("ab")}, api.OK, api.ErrArg)
		}
	}
	for _, w := range []api.Write{{Boot: 2, Op: great}, {Boot: 3, Op: 1}, {Boot: great, Op: 1}, {Boot: great, Op: great}} {
		w.Data = []byte("cd")
		checkWrite(t, s, w, api.OK, api.OK)
		checkRefused(t, d, s, w, api.OK, api.OK)
	}
	checkRead(t, s, 0, "cd", 5)
	_, first := fresh(t, plain)
	checkWrite(t, first, api.Write{Boot: 1, Op: 1, Data: []byte("ab")}, api.OK, api.OK)
	_, last := fresh(t, plain)
	checkWrite(t, last, api.Write{Boot: great, Op: great, Data: []byte("ab")}, api.OK, api.OK)
	checkRead(t, last, 0, "ab", 1)
}

// TestOldWrites: a boot that is less makes it old, whatever its number; of the same boot the number does.
func TestOldWrites(t *testing.T) {
	for _, at := range []struct{ boot, op int }{{3, 3}, {1, 1}, {1, 300}, {300, 1}, {great, great}, {200, 200}} {
		d, s := fresh(t, plain)
		checkWrite(t, s, api.Write{Client: 1, Boot: at.boot, Op: at.op, Block: 1, Data: []byte("ab")}, api.OK, api.OK)
		for _, boot := range []int{1, 2, 3, 4, 127, 128, 199, 200, 201, 300, great - 1, great} {
			for _, op := range []int{1, 2, 3, 4, 127, 128, 199, 200, 201, 300, great - 1, great} {
				if boot < at.boot || boot == at.boot && op < at.op {
					checkRefused(t, d, s, api.Write{Client: 1, Boot: boot, Op: op, Block: 2, Data: []byte("cd")}, api.OK, api.ErrOld)
				}
			}
		}
		checkRead(t, s, 1, "ab", 1)
		checkRead(t, s, 2, "\x00\x00", 0)
	}
}

// TestNewerWrites: a greater boot makes it newer, also with a number that is less.
func TestNewerWrites(t *testing.T) {
	_, s := fresh(t, plain)
	for i, w := range []api.Write{{Boot: 1, Op: 5}, {Boot: 1, Op: 6}, {Boot: 1, Op: 300}, {Boot: 2, Op: 1}, {Boot: 2, Op: 2}, {Boot: 130, Op: 1}, {Boot: 131, Op: great}, {Boot: 132, Op: 131}} {
		w.Data = []byte{'a', byte(i)}
		checkWrite(t, s, w, api.OK, api.OK)
		checkRead(t, s, 0, string(w.Data), i+1)
	}
}

// TestWhatIsWrongIsToldAheadOfWhatIsOld: in the order that the chapter names.
func TestWhatIsWrongIsToldAheadOfWhatIsOld(t *testing.T) {
	d, s := fresh(t, plain)
	checkWrite(t, s, api.Write{Boot: 5, Op: 5, Block: 1, Data: []byte("ab")}, api.OK, api.OK)
	for _, op := range []int{4, 5} {
		checkRefused(t, d, s, api.Write{Boot: 5, Op: op, Block: 3, Data: []byte("abc")}, api.OK, api.ErrBlock)
		checkRefused(t, d, s, api.Write{Boot: 5, Op: op, Block: 1, Data: []byte("abc")}, api.OK, api.ErrSize)
		checkRefused(t, d, s, api.Write{Boot: 5, Op: op, Block: 1, Slot: 2, Data: []byte("ab")}, api.OK, api.ErrArg)
	}
	checkRefused(t, d, s, api.Write{Boot: 5, Op: 4, Block: 1, Data: []byte("ab")}, api.OK, api.ErrOld)
}

// TestTheSameWriteAgain: boot and number alone make it the same; whatever else it has, nothing is done.
func TestTheSameWriteAgain(t *testing.T) {
	d, s := fresh(t, plain)
	checkWrite(t, s, write(7, 1, "ab"), api.OK, api.OK)
	for range 3 {
		checkRefused(t, d, s, write(7, 1, "ab"), api.OK, api.OK)
		checkRefused(t, d, s, write(7, 1, "zz"), api.OK, api.OK)
		checkRefused(t, d, s, write(7, 2, "zz"), api.OK, api.OK)
	}
	checkRead(t, s, 1, "ab", 1)
	checkRead(t, s, 2, "\x00\x00", 0)
	checkWrite(t, s, api.Write{Slot: 1, Boot: 1, Op: 7, Block: 1, Data: []byte("cd")}, api.OK, api.OK)
	checkWrite(t, s, api.Write{Client: 1, Boot: 1, Op: 7, Block: 1, Data: []byte("ef")}, api.OK, api.OK)
	checkRead(t, s, 1, "ef", 3)
}

// TestLastVersion: a block is written so often, and no more; each write of it that comes then is answered ErrLast, also again.
func TestLastVersion(t *testing.T) {
	d, s := fresh(t, plain)
	for op := 1; op <= api.MaxVersion; op++ {
		checkWrite(t, s, write(op, 1, string([]byte{byte(op), byte(op >> 8)})), api.OK, api.OK)
	}
	checkRead(t, s, 1, string([]byte{1000 & 255, 1000 >> 8}), 1000)
	for op := 1001; op <= 1003; op++ {
		checkWrite(t, s, write(op, 1, "zz"), api.ErrLast, api.OK)
		checkRefused(t, d, s, write(op, 1, "zz"), api.ErrLast, api.OK)
		checkRefused(t, d, s, write(op, 2, "zz"), api.ErrLast, api.OK)
		checkRefused(t, d, s, write(op-1, 1, "zz"), api.OK, api.ErrOld)
		checkRead(t, s, 1, string([]byte{1000 & 255, 1000 >> 8}), 1000)
	}
	checkWrite(t, s, write(1004, 2, "zz"), api.OK, api.OK)
	checkRead(t, s, 2, "zz", 1)
	again := open(t, d, plain)
	checkRefused(t, d, again, write(1004, 1, "zz"), api.OK, api.OK)
	checkWrite(t, again, write(1005, 1, "zz"), api.ErrLast, api.OK)
}

// TestDown: it is what the disk is; what is read, and what was answered, is told all the same.
func TestDown(t *testing.T) {
	d, s := fresh(t, plain)
	checkWrite(t, s, write(1, 1, "ab"), api.OK, api.OK)
	d.Fuse(0)
	if s.Down() {
		t.Error("down ahead of the write")
	}
	checkWrite(t, s, write(2, 1, "cd"), api.OK, api.ErrDown)
	if !s.Down() || !d.Down() {
		t.Error("not down")
	}
	checkRead(t, s, 1, "ab", 1)
	checkWrite(t, s, write(1, 1, "ab"), api.OK, api.OK)
	checkWrite(t, s, write(2, 1, "cd"), api.OK, api.ErrDown)
	checkWrite(t, s, write(2, 3, "cd"), api.OK, api.ErrBlock)
	checkWrite(t, s, api.Write{Boot: 2, Op: 1, Data: []byte("ab")}, api.OK, api.ErrDown)
	d.Up()
	if s.Down() {
		t.Error("down behind Up")
	}
	checkWrite(t, s, write(2, 1, "cd"), api.OK, api.OK)
}

// TestOpenOnADiskThatIsDown: with nothing in the journal nothing is written, so there is no error.
func TestOpenOnADiskThatIsDown(t *testing.T) {
	d, s := fresh(t, plain)
	checkWrite(t, s, write(1, 1, "ab"), api.OK, api.OK)
	d.Fuse(0)
	checkWrite(t, s, write(2, 1, "cd"), api.OK, api.ErrDown)
	again := open(t, d, plain)
	if !again.Down() {
		t.Error("not down")
	}
	checkRead(t, again, 1, "ab", 1)
	checkWrite(t, again, write(2, 1, "cd"), api.OK, api.ErrDown)
}

func TestNil(t *testing.T) {
	var s *store.Store
	for _, block := range []int{0, 1, -1, 32, math.MaxInt, math.MinInt} {
		if b, v, e := s.Read(block); len(b) != 0 || v != 0 || e != api.ErrNil {
			t.Errorf("Read(%d): %q %d %d", block, b, v, int(e))
		}
		checkWrite(t, s, write(1, block, "ab"), api.OK, api.ErrNil)
		checkWrite(t, s, api.Write{Client: -1, Slot: -1, Block: block}, api.OK, api.ErrNil)
	}
	if s.Down() {
		t.Error("down")
	}
}

// TestStoresAreApart: what is written to one isn't to another one.
func TestStoresAreApart(t *testing.T) {
	first, a := fresh(t, plain)
	_, b := fresh(t, plain)
	checkWrite(t, a, write(1, 1, "ab"), api.OK, api.OK)
	checkRead(t, b, 1, "\x00\x00", 0)
	checkWrite(t, b, write(1, 1, "cd"), api.OK, api.OK)
	first.Fuse(0)
	checkWrite(t, a, write(2, 1, "ef"), api.OK, api.ErrDown)
	checkWrite(t, b, write(2, 1, "ef"), api.OK, api.OK)
	if !a.Down() || b.Down() {
		t.Error("the wrong one is down")
	}
	checkRead(t, a, 1, "ab", 1)
	checkRead(t, b, 1, "ef", 2)
}
