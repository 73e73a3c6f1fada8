package server_test

import (
	"testing"

	"gradine/api"
)

// TestReadOfTheCache: a block that the cache has is answered with its bytes, without the array, and is used.
func TestReadOfTheCache(t *testing.T) {
	for _, mode := range []int{api.MInclusive, api.MNine} {
		for _, level := range levels() {
			s := ready(t, plain(mode, 2))
			checkTold(t, "fetch", fetch(t, s, 0, 3, level, "ab"), rData(0, qRead(0, 1, 3, level), api.OK, true, "ab"))
			checkTold(t, "fetch", fetch(t, s, 0, 4, level, "cd"), rData(0, qRead(0, 1, 4, level), api.OK, true, "cd"))
			checkBlocks(t, s, 4, 3)
			q := qRead(1, 7, 3, level)
			checkHear(t, s, 2, q, rData(2, q, api.OK, true, "ab"))
			checkBlocks(t, s, 3, 4)
			checkSharers(t, s, 3, 0, 2)
			checkSharers(t, s, 4, 0)
			checkWaits(t, s, 0, false)
		}
	}
}

// TestReadUsesOnce: a read of what is there is one use of it: an MQ tells, as its second and third queue begin with the second and the fourth use.
func TestReadUsesOnce(t *testing.T) {
	for _, mode := range []int{api.MInclusive, api.MNine} {
		s := ready(t, queued(mode, 3))
		for b := range 3 {
			fetch(t, s, 0, b, 0, "ab")
		}
		use := func(b int) {
			s.Hear(0, qRead(0, 1, b, 0))
		}
		checkBlocks(t, s, 2, 1, 0)
		use(0) // used twice
		use(0) // three times
		checkBlocks(t, s, 0, 2, 1)
		use(1) // twice
		checkBlocks(t, s, 1, 0, 2)
		use(0) // four times
		use(1) // three times
		checkBlocks(t, s, 0, 1, 2)
	}
}

// TestReadOfTheCacheExclusive: with MExclusive a block that is read for another level than 2 isn't there any more; for level 3 the array is told to have it, ahead of the answer; the client may have it of level 1 alone.
func TestReadOfTheCacheExclusive(t *testing.T) {
	for _, c := range exclusives() {
		for _, level := range levels() {
			s := ready(t, c)
			checkTold(t, "fetch", fetch(t, s, 0, 3, 2, "ab"), rData(0, qRead(0, 1, 3, 2), api.OK, false, "ab"))
			checkTold(t, "fetch", fetch(t, s, 0, 4, 2, "cd"), rData(0, qRead(0, 1, 4, 2), api.OK, false, "cd"))
			checkBlocks(t, s, 4, 3)
			q := qRead(1, 7, 3, level)
			answer := rData(1, q, api.OK, level == 1, "ab")
			if level == 3 {
				checkHear(t, s, 1, q, aDemote(3, "ab"), answer)
			} else {
				checkHear(t, s, 1, q, answer)
			}
			if level == 2 {
				checkBlocks(t, s, 3, 4)
			} else {
				checkBlocks(t, s, 4)
			}
			if level == 1 {
				checkSharers(t, s, 3, 1)
			} else {
				checkSharers(t, s, 3)
			}
			checkWaits(t, s, 0, false)
		}
	}
}

// TestReadOfTheArray: a block that the cache hasn't is asked of the array, with the level; with MInclusive and MNine it is there then, and the client shares it.
func TestReadOfTheArray(t *testing.T) {
	for _, mode := range []int{api.MInclusive, api.MNine} {
		for _, level := range levels() {
			s := ready(t, plain(mode, 2))
			q := qRead(1, 7, 3, level)
			checkHear(t, s, 2, q, aRead(3, level))
			checkWaits(t, s, 0, true)
			checkBlocks(t, s)
			checkSharers(t, s, 3)
			checkArray(t, s, bData(3, "ab"), rData(2, q, api.OK, true, "ab"))
			checkHeld(t, s, frame(3, "ab"))
			checkWaits(t, s, 0, false)
		}
	}
}

// TestReadOfTheArrayExclusive: with MExclusive it is there of level 2 alone, if it is taken, and the client shares it of level 1 alone.
func TestReadOfTheArrayExclusive(t *testing.T) {
	for _, c := range exclusives() {
		for _, level := range levels() {
			for _, b := range []int{0, 3, 7} {
				s := ready(t, c)
				q := qRead(1, 7, b, level)
				checkHear(t, s, 2, q, aRead(b, level))
				checkArray(t, s, bData(b, "ab"), rData(2, q, api.OK, level == 1, "ab"))
				if level == 1 {
					checkSharers(t, s, b, 2)
				} else {
					checkSharers(t, s, b)
				}
				if level == 2 && (c.Place != api.PKarma || b == 3) {
					checkHeld(t, s, frame(b, "ab"))
				} else {
					checkBlocks(t, s)
				}
				checkWaits(t, s, 0, false)
			}
		}
	}
}

// TestReadOfWhatIsShared: others that share the block go on doing so; with a read nothing is called back.
func TestReadOfWhatIsShared(t *testing.T) {
	for _, c := range kinds() {
		s := ready(t, c)
		fetch(t, s, 0, 3, 1, "ab")
		q := qRead(0, 2, 3, 1)
		if c.Mode == api.MExclusive {
			checkTold(t, "fetch", fetch(t, s, 2, 3, 1, "ab"), rData(2, qRead(0, 1, 3, 1), api.OK, true, "ab"))
			checkTold(t, "fetch", fetch(t, s, 0, 3, 1, "ab"), rData(0, qRead(0, 1, 3, 1), api.OK, true, "ab"))
		} else {
			checkHear(t, s, 2, q, rData(2, q, api.OK, true, "ab"))
			checkHear(t, s, 0, q, rData(0, q, api.OK, true, "ab"))
		}
		checkSharers(t, s, 3, 0, 2)
	}
}

// TestReadWithAnError: what the array couldn't read is answered with its error, and that is all: nothing is there, and nobody shares it.
func TestReadWithAnError(t *testing.T) {
	for _, c := range kinds() {
		for _, level := range levels() {
			for _, code := range []api.Errno{api.ErrShort, api.ErrBlock, api.ErrWait} {
				s := ready(t, c)
				q := qRead(1, 7, 3, level)
				checkHear(t, s, 2, q, aRead(3, level))
				checkArray(t, s, bNone(3, code), rData(2, q, code, false, ""))
				checkBlocks(t, s)
				checkSharers(t, s, 3)
				checkWaits(t, s, 0, false)
			}
		}
	}
}

// TestReadBelow: with MExclusive what is read from the array may be below then, if it was for level 3, and isn't, if it wasn't; of one with an error, or from the cache, that stays as it is, but where the array is told to have it.
func TestReadBelow(t *testing.T) {
	for _, c := range exclusives() {
		for _, level := range levels() {
			s := ready(t, c)
			share(t, s, 0, 3)
			fetch(t, s, 1, 3, 4, "zz")
			fetch(t, s, 1, 3, level, "zz")
			checkBelow(t, s, 0, 3, level == 3)

			for _, before := range []int{3, 4} {
				s = ready(t, c)
				share(t, s, 0, 3)
				fetch(t, s, 1, 3, before, "zz")
				checkHear(t, s, 1, qRead(0, 1, 3, level), aRead(3, level))
				checkArray(t, s, bNone(3, api.ErrBlock), rData(1, qRead(0, 1, 3, level), api.ErrBlock, false, ""))
				checkBelow(t, s, 0, 3, before == 3)
			}

			s = ready(t, c)
			share(t, s, 0, 3)
			fetch(t, s, 1, 3, 2, "zz")
			s.Hear(1, qRead(0, 1, 3, level))
			checkBelow(t, s, 0, 3, level == 3)
		}
	}
}

// TestBDataOfAnother: of another block, or of one that isn't read from the array, it is nothing.
func TestBDataOfAnother(t *testing.T) {
	for _, c := range kinds() {
		s := ready(t, c)
		checkArray(t, s, bData(3, "ab"))
		checkBlocks(t, s)
		q := qRead(1, 7, 3, 1)
		checkHear(t, s, 2, q, aRead(3, 1))
		for _, b := range []int{0, 2, 4, 7, 8, 31} {
			checkArray(t, s, bData(b, "xy"))
			checkArray(t, s, bNone(b, api.ErrBlock))
		}
		checkArray(t, s, bDone(2, 12, q, api.OK, true))
		checkArray(t, s, bDone(0, 0, api.Msg{}, api.OK, true))
		checkBlocks(t, s)
		checkWaits(t, s, 0, true)
		checkArray(t, s, bData(3, "ab"), rData(2, q, api.OK, true, "ab"))
		checkArray(t, s, bData(3, "xy"))
		checkWaits(t, s, 0, false)
		w := qWrite(0, 8, 4, 1, "ef")
		checkHear(t, s, 0, w, aWrite(0, 10, w))
		checkArray(t, s, bData(4, "xy"))
		checkWaits(t, s, 0, true)
	}
}

// TestWhatGoesInclusive: with MInclusive what goes for a read is called back behind the answer, and the server is at the read till that is done.
func TestWhatGoesInclusive(t *testing.T) {
	s := ready(t, plain(api.MInclusive, 2))
	fetch(t, s, 0, 3, 0, "ab")
	fetch(t, s, 1, 4, 0, "cd")
	s.Hear(2, qRead(0, 2, 3, 0))
	s.Hear(0, qRead(0, 3, 4, 0))
	checkTold(t, "fetch", fetch(t, s, 0, 5, 0, "ef"), rData(0, qRead(0, 1, 5, 0), api.OK, true, "ef"), rInv(0, 3, 1), rInv(2, 3, 1))
	checkBlocks(t, s, 5, 4)
	checkSharers(t, s, 5, 0)
	checkWaits(t, s, 0, true)
	q := qRead(1, 9, 5, 0)
	checkHear(t, s, 1, q)
	checkArray(t, s, bData(5, "xy"))
	checkHear(t, s, 2, qAck(3, 1))
	checkWaits(t, s, 1, true)
	checkHear(t, s, 0, qAck(3, 1), rData(1, q, api.OK, true, "ef"))
	checkSharers(t, s, 3)
	checkWaits(t, s, 0, false)
	// What goes next is block 4, as 5 was used since; a client whose session ends needn't acknowledge it.
	checkTold(t, "fetch", fetch(t, s, 2, 6, 0, "gh"), rData(2, qRead(0, 1, 6, 0), api.OK, true, "gh"), rInv(0, 4, 2), rInv(1, 4, 2))
	checkTold(t, "Gone", s.Gone(1))
	checkHear(t, s, 0, qAck(4, 2))
	checkWaits(t, s, 0, false)
}

// TestWhatGoesUnshared: where nobody shares what goes the round is one more all the same, and the server goes on at once.
func TestWhatGoesUnshared(t *testing.T) {
	s := ready(t, plain(api.MInclusive, 1))
	fetch(t, s, 0, 3, 0, "ab")
	checkHear(t, s, 0, qAck(3, 0))
	q := qRead(1, 2, 4, 0)
	checkHear(t, s, 1, q, aRead(4, 0))
	next := qRead(0, 3, 5, 0)
	checkHear(t, s, 0, next)
	checkArray(t, s, bData(4, "cd"), rData(1, q, api.OK, true, "cd"), aRead(5, 0))
	checkArray(t, s, bData(5, "ef"), rData(0, next, api.OK, true, "ef"), rInv(1, 4, 2))
}

// TestWhatGoesExclusive: with MExclusive what goes is handed down to the array, ahead of the answer, and may be below then; nothing is called back.
func TestWhatGoesExclusive(t *testing.T) {
	for _, c := range exclusives() {
		s := ready(t, c)
		share(t, s, 2, 3)
		share(t, s, 2, 4)
		share(t, s, 2, 5)
		fetch(t, s, 0, 3, 2, "ab")
		fetch(t, s, 0, 4, 2, "cd")
		q := qRead(1, 7, 5, 2)
		checkHear(t, s, 1, q, aRead(5, 2))
		checkArray(t, s, bData(5, "ef"), aDemote(3, "ab"), rData(1, q, api.OK, false, "ef"))
		checkHeld(t, s, frame(5, "ef"), frame(4, "cd"))
		checkWaits(t, s, 0, false)
		checkSharers(t, s, 3, 2)
		checkBelow(t, s, 2, 5, false)
		checkBelow(t, s, 2, 4, false)
		checkBelow(t, s, 2, 3, true)
	}
}

// TestWhatGoesMNine: with MNine nothing is told of what goes; who shares it goes on doing so.
func TestWhatGoesMNine(t *testing.T) {
	s := ready(t, plain(api.MNine, 1))
	fetch(t, s, 0, 3, 0, "ab")
	checkTold(t, "fetch", fetch(t, s, 1, 4, 0, "cd"), rData(1, qRead(0, 1, 4, 0), api.OK, true, "cd"))
	checkHeld(t, s, frame(4, "cd"))
	checkSharers(t, s, 3, 0)
	checkWaits(t, s, 0, false)
}

// TestBytesOfAnotherSize: what isn't a block's size isn't put into the cache, but answered.
func TestBytesOfAnotherSize(t *testing.T) {
	for _, c := range kinds() {
		for _, data := range []string{"", "a", "abc", "0123456789abcdef0123456789abcdef0123456789abcdef0123456789abcdef"} {
			s := ready(t, c)
			checkTold(t, "fetch", fetch(t, s, 0, 3, 2, data), rData(0, qRead(0, 1, 3, 2), api.OK, c.Mode != api.MExclusive, data))
			checkBlocks(t, s)
			checkWaits(t, s, 0, false)
		}
	}
}
