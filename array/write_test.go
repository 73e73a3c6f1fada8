package array_test

import (
	"testing"

	"gradine/api"
	"gradine/raw"
	"gradine/sector"
)

// TestWriteIsHeld: with MInclusive and MNine what is written is held, of whatever level, with its new bytes; what goes is told ahead of the answer with MInclusive alone.
func TestWriteIsHeld(t *testing.T) {
	for _, level := range levels() {
		for _, mode := range []int{api.MInclusive, api.MNine} {
			a := newArray(t, plain(mode, 2))
			checkHear(t, a, write(1, 5, level, "aa"), done(write(1, 5, 0, ""), api.OK, true))
			checkBlocks(t, a, 5)
			a.Hear(read(0, 0))
			checkHear(t, a, write(2, 5, level, "bb"), done(write(2, 5, 0, ""), api.OK, true))
			checkBlocks(t, a, 5, 0)
			checkStored(t, a, 5, "bb", 2)
			m := write(3, 7, level, "cc")
			if mode == api.MInclusive {
				checkHear(t, a, m, inv(0), done(m, api.OK, true))
			} else {
				checkHear(t, a, m, done(m, api.OK, true))
			}
			checkBlocks(t, a, 7, 5)
			checkStored(t, a, 7, "cc", 1)
			checkHeld(t, a, 5, "bb")
			checkHeld(t, a, 7, "cc")
			checkReads(t, a, 1)
		}
	}
}

// TestWriteTakesOut: with MExclusive what is written for another level than 3 isn't held then, whether it was or not.
func TestWriteTakesOut(t *testing.T) {
	for _, c := range []api.Config{plain(api.MExclusive, 2), queued(api.MExclusive, 2), leveled(2), parted()} {
		for _, level := range []int{0, 1, 2, 4} {
			a := newArray(t, c)
			a.Hear(demote(2, 3, zero))
			a.Hear(demote(4, 3, zero))
			for op, b := range []int{3, 0, 2} {
				m := write(op+1, b, level, "aa")
				checkHear(t, a, m, done(m, api.OK, true))
				checkStored(t, a, b, "aa", 1)
			}
			checkBlocks(t, a, 4)
			checkHear(t, a, read(2, level), data(2, "aa"))
			checkReads(t, a, 1)
		}
	}
}

// TestWriteForTheArray: with MExclusive what is written for level 3 is held, if it is taken, with its new bytes; what goes is told to nobody.
func TestWriteForTheArray(t *testing.T) {
	for _, c := range []api.Config{plain(api.MExclusive, 2), leveled(2), parted()} {
		a := newArray(t, c)
		for op, b := range []int{2, 4, 2, 3} {
			m := write(op+1, b, 3, "a"+string(rune('0'+op)))
			checkHear(t, a, m, done(m, api.OK, true))
		}
		checkBlocks(t, a, 3, 2)
		checkHeld(t, a, 2, "a2")
		checkHeld(t, a, 3, "a3")
		checkStored(t, a, 4, "a1", 1)
		checkReads(t, a, 0)
	}
}

// TestWriteNotTaken: with PKarma what the array has no part for is written, but not held.
func TestWriteNotTaken(t *testing.T) {
	a := newArray(t, parted())
	a.Hear(read(2, 3))
	for op, b := range []int{0, 1, 5, 6, 7} {
		m := write(op+1, b, 3, "aa")
		checkHear(t, a, m, done(m, api.OK, true))
		checkBlocks(t, a, 2)
		checkStored(t, a, b, "aa", 1)
	}
}

// TestWriteUsesOnce: a write of what is held is one use of it; an MQ tells.
func TestWriteUsesOnce(t *testing.T) {
	for _, mode := range modes() {
		a := newArray(t, queued(mode, 3))
		op := 0
		for _, b := range []int{0, 1, 0, 0, 1} {
			op++
			a.Hear(write(op, b, 3, "aa"))
		}
		checkBlocks(t, a, 1, 0) // used twice, and three times: both are in the second queue
		a.Hear(write(op+1, 0, 3, "aa"))
		a.Hear(write(op+2, 1, 3, "aa"))
		checkBlocks(t, a, 0, 1) // four times, and three times
	}
}

// TestWriteByAll: each client's slots have writes of their own, and the answer tells whose it is.
func TestWriteByAll(t *testing.T) {
	a := newArray(t, plain(api.MNine, 2))
	version := 0
	for _, boot := range []int{1, 7, great} {
		for _, op := range []int{1, 2, great} {
			for client := range 2 {
				for slot := range 3 {
					version++
					m := api.Msg{Kind: api.AWrite, Client: client, Slot: slot, Boot: boot, Op: op, Block: 6, Data: []byte{byte(version), 7}}
					checkHear(t, a, m, done(m, api.OK, true))
					checkStored(t, a, 6, string(m.Data), version)
				}
			}
		}
	}
}

// TestWriteAgain: a write that comes again is answered as it was, without Grant, and changes nothing, whatever it tells now: neither what is held, nor its order, nor its bytes.
func TestWriteAgain(t *testing.T) {
	for _, c := range kinds() {
		for _, level := range levels() {
			a := newArray(t, c)
			m := write(4, 3, 3, "aa")
			other := m
			other.Slot, other.Data = 0, []byte("bb")
			checkHear(t, a, m, done(m, api.OK, true))
			checkHear(t, a, other, done(other, api.OK, true))
			a.Hear(read(2, 3))
			want := a.Blocks()
			for _, again := range []api.Msg{m, other} {
				again.Level = level
				checkHear(t, a, again, done(again, api.OK, false))
				again.Block, again.Data = 4, []byte("zz")
				checkHear(t, a, again, done(again, api.OK, false))
			}
			checkBlocks(t, a, want...)
			checkStored(t, a, 3, "bb", 2)
			checkStored(t, a, 4, zero, 0)
			checkHeld(t, a, 3, "bb")
			a.Hear(drop(3))
			checkHear(t, a, m, done(m, api.OK, false))
			checkBlocks(t, a, 2)
		}
	}
}

// TestWriteOld: nothing is told of a write that is older than its slot's last one, and nothing changes.
func TestWriteOld(t *testing.T) {
	for _, c := range kinds() {
		a := newArray(t, c)
		m := write(4, 3, 3, "aa")
		a.Hear(m)
		a.Hear(read(2, 3))
		for _, old := range [][2]int{{3, 3}, {3, 1}, {2, 4}, {2, great}, {1, 1}} {
			for _, level := range levels() {
				for _, b := range []int{3, 2, 4} {
					w := write(old[1], b, level, "zz")
					w.Boot = old[0]
					checkHear(t, a, w)
				}
			}
		}
		checkBlocks(t, a, 2, 3)
		checkStored(t, a, 3, "aa", 1)
		checkStored(t, a, 2, zero, 0)
		checkHeld(t, a, 3, "aa")
		checkDown(t, a, false)
		m.Boot, m.Op, m.Data = 4, 1, []byte("bb")
		checkHear(t, a, m, done(m, api.OK, true))
	}
}

// TestWriteLast: a block that has no versions left isn't written; that is answered, once more too, without Grant, and nothing that is held changes.
func TestWriteLast(t *testing.T) {
	for _, c := range kinds() {
		for _, level := range levels() {
			a := over(t, c, aged(t, 3, api.MaxVersion-1, "yy"))
			m := write(1, 3, 3, "aa")
			checkHear(t, a, m, done(m, api.OK, true))
			a.Hear(read(2, 3))
			last := write(2, 3, level, "bb")
			checkHear(t, a, last, done(last, api.ErrLast, false))
			checkHear(t, a, last, done(last, api.ErrLast, false))
			checkHear(t, a, m)
			checkBlocks(t, a, 2, 3)
			checkStored(t, a, 3, "aa", api.MaxVersion)
			checkHeld(t, a, 3, "aa")
			a.Hear(drop(3))
			last.Op++
			checkHear(t, a, last, done(last, api.ErrLast, false))
			checkBlocks(t, a, 2)
		}
	}
}

// TestWriteWrong: what the store says is wrong with a write is answered, without Grant; nothing changes, and the slot's next write is a new one.
func TestWriteWrong(t *testing.T) {
	for _, c := range kinds() {
		a := newArray(t, c)
		a.Hear(read(3, 3))
		a.Hear(read(2, 3))
		for _, x := range []struct {
			change func(m *api.Msg)
			e      api.Errno
		}{
			{func(m *api.Msg) { m.Block = blocks }, api.ErrBlock},
			{func(m *api.Msg) { m.Block, m.Data, m.Client, m.Boot = 31, nil, 3, 0 }, api.ErrBlock},
			{func(m *api.Msg) { m.Data = nil }, api.ErrSize},
			{func(m *api.Msg) { m.Data = []byte("abc") }, api.ErrSize},
			{func(m *api.Msg) { m.Data, m.Slot = make([]byte, 64), 3 }, api.ErrSize},
			{func(m *api.Msg) { m.Client = 2 }, api.ErrArg},
			{func(m *api.Msg) { m.Slot = 3 }, api.ErrArg},
			{func(m *api.Msg) { m.Boot = 0 }, api.ErrArg},
			{func(m *api.Msg) { m.Op = 0 }, api.ErrArg},
		} {
			for _, level := range levels() {
				m := write(1, 3, level, "aa")
				x.change(&m)
				checkHear(t, a, m, done(m, x.e, false))
			}
		}
		checkBlocks(t, a, 2, 3)
		checkStored(t, a, 3, zero, 0)
		checkHeld(t, a, 3, zero)
		checkDown(t, a, false)
		m := write(1, 3, 3, "aa")
		checkHear(t, a, m, done(m, api.OK, true))
	}
}

// TestWriteAnswered: what a slot's last write was answered is told as it stands on the disk, an error by which a new write would tell nothing too.
func TestWriteAnswered(t *testing.T) {
	for code := api.OK; code <= api.ErrWait; code++ {
		c := plain(api.MInclusive, 2)
		d := sector.New(sectors)
		m := write(5, 3, 3, "aa")
		at := 1 + c.Blocks + c.Slots*m.Client + m.Slot
		if e := d.Write(at, raw.Put(raw.Put(raw.Put(nil, m.Boot), m.Op), int(code))); e != api.OK {
			t.Fatal(int(e))
		}
		a := over(t, c, d)
		checkHear(t, a, m, done(m, code, false))
		checkBlocks(t, a)
		checkDown(t, a, false)
	}
}
