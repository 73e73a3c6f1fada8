package array_test

import (
	"testing"

	"gradine/api"
)

// TestReadIsHeld: with MInclusive and MNine a block that is read is held, of whatever level, and its bytes are the cache's then; what goes is told ahead of the answer with MInclusive alone.
func TestReadIsHeld(t *testing.T) {
	for _, level := range levels() {
		for _, mode := range []int{api.MInclusive, api.MNine} {
			a := newArray(t, plain(mode, 2))
			checkHear(t, a, read(0, level), data(0, zero))
			checkBlocks(t, a, 0)
			checkHear(t, a, read(5, level), data(5, zero))
			checkBlocks(t, a, 5, 0)
			checkReads(t, a, 2)
			checkHear(t, a, read(0, level), data(0, zero))
			checkBlocks(t, a, 0, 5)
			checkReads(t, a, 2)
			if mode == api.MInclusive {
				checkHear(t, a, read(7, level), inv(5), data(7, zero))
			} else {
				checkHear(t, a, read(7, level), data(7, zero))
			}
			checkBlocks(t, a, 7, 0)
			checkReads(t, a, 3)
		}
	}
}

// TestReadTakesOut: with MExclusive a block that is read for another level than 3 isn't held then, whether its bytes were the cache's or the store's; nobody is told.
func TestReadTakesOut(t *testing.T) {
	for _, c := range []api.Config{plain(api.MExclusive, 2), queued(api.MExclusive, 2), leveled(2), parted()} {
		for _, level := range []int{0, 1, 2, 4} {
			a := newArray(t, c)
			a.Hear(demote(2, 3, zero))
			a.Hear(demote(4, 3, zero))
			checkHear(t, a, read(3, level), data(3, zero))
			checkBlocks(t, a, 4, 2)
			checkReads(t, a, 1)
			checkHear(t, a, read(2, level), data(2, zero))
			checkBlocks(t, a, 4)
			checkHear(t, a, read(4, level), data(4, zero))
			checkBlocks(t, a)
			checkReads(t, a, 1)
		}
	}
}

// TestReadForTheArray: with MExclusive a block that is read for level 3 is held, or stays; what goes is told to nobody.
func TestReadForTheArray(t *testing.T) {
	for _, c := range []api.Config{plain(api.MExclusive, 2), leveled(2), parted()} {
		a := newArray(t, c)
		checkHear(t, a, read(2, 3), data(2, zero))
		checkHear(t, a, read(4, 3), data(4, zero))
		checkBlocks(t, a, 4, 2)
		checkReads(t, a, 2)
		checkHear(t, a, read(2, 3), data(2, zero))
		checkBlocks(t, a, 2, 4)
		checkReads(t, a, 2)
		checkHear(t, a, read(3, 3), data(3, zero))
		checkBlocks(t, a, 3, 2)
		checkReads(t, a, 3)
	}
}

// TestReadNotTaken: with PKarma a block that the array has no part for is read for level 3, but not held.
func TestReadNotTaken(t *testing.T) {
	a := newArray(t, parted())
	a.Hear(read(2, 3))
	for i, b := range []int{0, 1, 5, 6, 7} {
		for _, level := range levels() {
			checkHear(t, a, read(b, level), data(b, zero))
			checkBlocks(t, a, 2)
		}
		checkReads(t, a, 1+(i+1)*len(levels()))
	}
}

// TestReadUsesOnce: with MInclusive and MNine a read of what is held is one use of it, one of what isn't is to add it: an MQ tells, as its second and third queue begin with the second and the fourth use.
func TestReadUsesOnce(t *testing.T) {
	for _, mode := range []int{api.MInclusive, api.MNine} {
		a := newArray(t, queued(mode, 3))
		for _, b := range []int{0, 1, 2} {
			a.Hear(read(b, 0))
		}
		checkBlocks(t, a, 2, 1, 0)
		a.Hear(read(0, 0)) // used twice
		a.Hear(read(0, 0)) // three times
		checkBlocks(t, a, 0, 2, 1)
		a.Hear(read(1, 0)) // twice
		checkBlocks(t, a, 1, 0, 2)
		a.Hear(read(0, 0)) // four times
		a.Hear(read(1, 0)) // three times
		checkBlocks(t, a, 0, 1, 2)
		checkReads(t, a, 3)
	}
}

// TestReadForTheArrayPuts: with MExclusive what is held is used by a read for level 3, and put there then, which is to use it once more.
func TestReadForTheArrayPuts(t *testing.T) {
	a := newArray(t, queued(api.MExclusive, 3))
	for _, b := range []int{0, 1} {
		a.Hear(read(b, 3))
	}
	checkBlocks(t, a, 1, 0)
	a.Hear(read(0, 3)) // used three times
	checkBlocks(t, a, 0, 1)
	a.Hear(demote(1, 3, zero)) // twice
	checkBlocks(t, a, 1, 0)
	a.Hear(read(0, 3)) // five times: it is in the third queue
	a.Hear(demote(1, 3, zero))
	checkBlocks(t, a, 0, 1)
	checkReads(t, a, 2)
}

// TestReadNoSuchBlock: it is told with ErrBlock, and without bytes; nothing is held, and nothing counts as read.
func TestReadNoSuchBlock(t *testing.T) {
	for _, c := range kinds() {
		a := newArray(t, c)
		a.Hear(read(2, 3))
		for _, b := range []int{blocks, blocks + 1, 16, 31} {
			for _, level := range levels() {
				checkHear(t, a, read(b, level), noData(b))
			}
		}
		checkBlocks(t, a, 2)
		checkReads(t, a, 1)
	}
}

// TestReadTellsTheLastWrite: whatever was read, held or dropped between, it is what was written last.
func TestReadTellsTheLastWrite(t *testing.T) {
	for _, c := range kinds() {
		for _, level := range levels() {
			for _, next := range levels() {
				a := newArray(t, c)
				b := 2
				checkHear(t, a, read(b, level), data(b, zero))
				a.Hear(write(1, b, next, "aa"))
				checkHear(t, a, read(b, level), data(b, "aa"))
				checkHear(t, a, read(b, next), data(b, "aa"))
				a.Hear(write(2, b, level, "bb"))
				a.Hear(write(1, b, level, "aa"))
				checkHear(t, a, read(b, next), data(b, "bb"))
				a.Hear(drop(b))
				checkHear(t, a, read(b, level), data(b, "bb"))
				a.Hear(write(2, b, level, "cc"))
				checkHear(t, a, read(b, level), data(b, "bb"))
			}
		}
	}
}

// TestDemote: with MExclusive a block that is handed down at level 3 is held with its bytes, and used, if it was there; what goes is gone.
func TestDemote(t *testing.T) {
	for _, c := range []api.Config{plain(api.MExclusive, 2), leveled(2), parted()} {
		a := newArray(t, c)
		checkHear(t, a, write(1, 3, 0, "ab"), done(write(1, 3, 0, ""), api.OK, true))
		checkHear(t, a, demote(3, 3, "ab"))
		checkBlocks(t, a, 3)
		checkHear(t, a, demote(2, 3, zero))
		checkBlocks(t, a, 2, 3)
		checkHear(t, a, demote(3, 3, "ab"))
		checkBlocks(t, a, 3, 2)
		checkHear(t, a, demote(4, 3, zero))
		checkBlocks(t, a, 4, 3)
		checkHeld(t, a, 3, "ab")
		checkHeld(t, a, 4, zero)
		checkReads(t, a, 0)
		checkStored(t, a, 3, "ab", 1)
		checkStored(t, a, 4, zero, 0)
	}
}

// TestDemoteOfAnotherLevel: it isn't held, nor is one of level 3 with another mode, or that the array has no part for; what is there stays as it is.
func TestDemoteOfAnotherLevel(t *testing.T) {
	for _, c := range kinds() {
		a := newArray(t, c)
		a.Hear(read(2, 3))
		a.Hear(read(3, 3))
		for _, level := range levels() {
			if level != 3 || c.Mode != api.MExclusive {
				for b := range blocks {
					checkHear(t, a, demote(b, level, "xy"))
				}
			}
			if c.Place == api.PKarma {
				for _, b := range []int{0, 1, 5, 6, 7} {
					checkHear(t, a, demote(b, level, "xy"))
				}
			}
		}
		checkBlocks(t, a, 3, 2)
		checkHear(t, a, read(2, 0), data(2, zero))
		checkHear(t, a, read(3, 0), data(3, zero))
		checkReads(t, a, 2)
	}
}

// TestDemoteWrong: of no such block, or with bytes that aren't as many as a block's, nothing is held, and nothing used.
func TestDemoteWrong(t *testing.T) {
	for _, c := range kinds() {
		a := newArray(t, c)
		a.Hear(read(2, 3))
		a.Hear(read(3, 3))
		for _, b := range []int{blocks, blocks + 1, 31} {
			checkHear(t, a, demote(b, 3, zero))
		}
		for _, b := range []int{2, 4} {
			for _, data := range []string{"", "x", "xyz", "0123456789abcdef", "0123456789abcdef0123456789abcdef0123456789abcdef0123456789abcdef"} {
				checkHear(t, a, demote(b, 3, data))
			}
		}
		checkBlocks(t, a, 3, 2)
		checkHear(t, a, read(2, 0), data(2, zero))
		checkReads(t, a, 2)
	}
}
