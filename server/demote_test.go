package server_test

import (
	"strings"
	"testing"

	"gradine/api"
)

// TestDemoteWithoutRoomBelow: with MInclusive and MNine a client that hands a block down doesn't share it any more, and that is all.
func TestDemoteWithoutRoomBelow(t *testing.T) {
	for _, mode := range []int{api.MInclusive, api.MNine} {
		for _, level := range levels() {
			s := shared(t, plain(mode, 2))
			checkBlocks(t, s, 4, 3)
			checkHear(t, s, 0, qDemote(3, level, "xy"))
			checkSharers(t, s, 3, 2)
			checkHear(t, s, 2, qDemote(3, level, ""))
			checkSharers(t, s, 3)
			checkSharers(t, s, 4, 1)
			checkHeld(t, s, frame(4, "zz"), frame(3, "zz"))
			checkWaits(t, s, 0, false)
		}
	}
}

// TestDemoteToTheServer: with MExclusive a block that is handed down at level 2 is in the cache then, with its bytes; the array is told to drop it, if it may be below, and it isn't then.
func TestDemoteToTheServer(t *testing.T) {
	for _, c := range exclusives() {
		s := shared(t, c)
		checkHear(t, s, 0, qDemote(3, 2, "ab"))
		checkBlocks(t, s, 3)
		checkSharers(t, s, 3, 2)
		checkWaits(t, s, 0, false)
		// Once more it has other bytes, and is used.
		checkHear(t, s, 1, qDemote(4, 2, "cd"))
		checkBlocks(t, s, 4, 3)
		checkHear(t, s, 2, qDemote(3, 2, "ef"))
		checkHeld(t, s, frame(3, "ef"), frame(4, "cd"))
		checkSharers(t, s, 3)

		s = shared(t, c)
		share(t, s, 1, 3)
		fetch(t, s, 1, 3, 3, "zz")
		checkHear(t, s, 0, qDemote(3, 2, "ab"), aDrop(3))
		checkHeld(t, s, frame(3, "ab"))
		checkHear(t, s, 2, qDemote(3, 2, "ab"))
		// It stays so, be it in the cache or not.
		checkHear(t, s, 0, qRead(0, 1, 3, 4), rData(0, qRead(0, 1, 3, 4), api.OK, false, "ab"))
		checkBlocks(t, s)
		checkHear(t, s, 1, qDemote(3, 2, "ab"))
		checkBlocks(t, s, 3)
	}
}

// TestDemoteToTheArray: with MExclusive a block that is handed down at level 3 is handed on to the array, and isn't in the cache any more; it may be below then.
func TestDemoteToTheArray(t *testing.T) {
	for _, c := range exclusives() {
		s := shared(t, c)
		checkHear(t, s, 0, qDemote(3, 3, "ab"), aDemote(3, "ab"))
		checkBlocks(t, s)
		checkSharers(t, s, 3, 2)
		checkBelow(t, s, 2, 3, true)
		checkWaits(t, s, 0, false)

		s = shared(t, c)
		fetch(t, s, 1, 3, 2, "zz")
		fetch(t, s, 1, 4, 2, "zz")
		checkHear(t, s, 0, qDemote(3, 3, "ab"), aDemote(3, "ab"))
		checkBlocks(t, s, 4)
		// It is handed on as it is, whether tier 2 takes it or not, and of whatever size it is.
		share(t, s, 0, 7)
		checkHear(t, s, 0, qDemote(7, 3, "gh"), aDemote(7, "gh"))
		checkHear(t, s, 1, qDemote(4, 3, "x"), aDemote(4, "x"))
		checkBlocks(t, s)
	}
}

// TestDemoteToNone: with MExclusive a client that hands a block down at another level doesn't share it any more, and that is all.
func TestDemoteToNone(t *testing.T) {
	for _, c := range exclusives() {
		for _, level := range []int{0, 1, 4} {
			s := shared(t, c)
			fetch(t, s, 1, 3, 2, "zz")
			checkHear(t, s, 0, qDemote(3, level, "ab"))
			checkHeld(t, s, frame(3, "zz"))
			checkSharers(t, s, 3, 2)
			checkHear(t, s, 1, qDemote(4, level, "ab"))
			checkHeld(t, s, frame(3, "zz"))
			checkWaits(t, s, 0, false)
			checkBelow(t, s, 2, 3, false)

			s = shared(t, c)
			fetch(t, s, 1, 3, 3, "zz")
			checkHear(t, s, 0, qDemote(3, level, "ab"))
			checkBelow(t, s, 2, 3, true)
		}
	}
}

// TestDemoteMakesOneGo: what goes for a block that is handed down is handed down itself, behind what the array is to drop, and may be below then.
func TestDemoteMakesOneGo(t *testing.T) {
	for _, c := range exclusives() {
		s := shared(t, c)
		share(t, s, 0, 5)
		share(t, s, 2, 5)
		share(t, s, 1, 3)
		fetch(t, s, 0, 5, 3, "zz")
		checkHear(t, s, 0, qDemote(3, 2, "ab"))
		checkHear(t, s, 1, qDemote(4, 2, "cd"))
		checkBlocks(t, s, 4, 3)
		checkHear(t, s, 0, qDemote(5, 2, "ef"), aDrop(5), aDemote(3, "ab"))
		checkBlocks(t, s, 5, 4)
		checkHear(t, s, 1, qDemote(3, 2, "ab"), aDrop(3), aDemote(4, "cd"))
		checkBlocks(t, s, 3, 5)
		checkHear(t, s, 2, qDemote(5, 2, "gh"))
		checkHeld(t, s, frame(5, "gh"), frame(3, "ab"))
	}
}

// TestDemoteMakesGoWhatIsWritten: what goes for another block is handed down also when the server is at a write of it, with the bytes that it had, as the chapter names no other way for it; when the write is done it isn't below, unless it was for level 3.
func TestDemoteMakesGoWhatIsWritten(t *testing.T) {
	for _, c := range exclusives() {
		s := shared(t, c)
		share(t, s, 0, 5)
		fetch(t, s, 1, 2, 2, "ab")
		q := qWrite(1, 7, 2, 1, "cd")
		checkHear(t, s, 1, q, aWrite(1, 11, q))
		checkHear(t, s, 0, qDemote(3, 2, "ef"))
		checkBlocks(t, s, 3, 2)
		checkHear(t, s, 0, qDemote(5, 2, "gh"), aDemote(2, "ab"))
		checkBlocks(t, s, 5, 3)
		checkArray(t, s, bDone(1, 11, q, api.OK, true), rDone(1, q, api.OK, true))
		checkBelow(t, s, 1, 2, false)
	}
}

// TestDemoteNotTaken: with PKarma a block that tier 2 has no part for isn't put there, and the array needn't drop it.
func TestDemoteNotTaken(t *testing.T) {
	for _, b := range []int{0, 1, 6, 7} {
		s := ready(t, parted())
		share(t, s, 0, b)
		share(t, s, 2, b)
		fetch(t, s, 1, b, 3, "zz")
		checkHear(t, s, 0, qDemote(b, 2, "ab"))
		checkHear(t, s, 2, qDemote(b, 2, "ab"))
		checkSharers(t, s, b)
		checkBlocks(t, s)
	}
}

// TestDemoteOfAnotherSize: with bytes that aren't as many as a block's it isn't put into the cache, and the array needn't drop it; the client doesn't share it any more.
func TestDemoteOfAnotherSize(t *testing.T) {
	for _, c := range exclusives() {
		for _, data := range []string{"", "a", "abc", strings.Repeat("ab", 32)} {
			s := shared(t, c)
			fetch(t, s, 1, 3, 3, "zz")
			checkHear(t, s, 0, qDemote(3, 2, data))
			checkSharers(t, s, 3, 2)
			checkBlocks(t, s)
			checkBelow(t, s, 2, 3, true)
		}
	}
}

// TestDemoteUnshared: of a client that doesn't share the block it is nothing, with each mode and level.
func TestDemoteUnshared(t *testing.T) {
	for _, c := range kinds() {
		s := shared(t, c)
		if c.Mode == api.MExclusive {
			fetch(t, s, 1, 3, 2, "zz")
			fetch(t, s, 1, 5, 3, "zz")
		}
		want := s.Blocks()
		for _, level := range levels() {
			for b := range 32 {
				for client := range clients {
					if !has(s.Sharers(b), client) {
						checkHear(t, s, client, qDemote(b, level, "xy"))
					}
				}
			}
			checkBlocks(t, s, want...)
			checkSharers(t, s, 3, 0, 2)
			checkSharers(t, s, 4, 1)
			checkWaits(t, s, 0, false)
		}
	}
}

// has tells whether i is in l.
func has(l []int, i int) bool {
	for _, x := range l {
		if x == i {
			return true
		}
	}
	return false
}

// TestDemoteOfWhatItIsAt: while the server is at a request of the block a client that hands it down doesn't share it any more, and that is all.
func TestDemoteOfWhatItIsAt(t *testing.T) {
	for _, c := range exclusives() {
		for _, level := range []int{2, 3} {
			// A read that the array is asked for.
			s := shared(t, c)
			fetch(t, s, 1, 3, 3, "zz")
			q := qRead(1, 7, 3, 4)
			checkHear(t, s, 1, q, aRead(3, 4))
			checkHear(t, s, 0, qDemote(3, level, "ab"))
			checkBlocks(t, s)
			checkSharers(t, s, 3, 2)
			checkArray(t, s, bNone(3, api.ErrBlock), rData(1, q, api.ErrBlock, false, ""))
			checkBelow(t, s, 2, 3, true)

			// A write whose block is called back, and then is at the array: who handed the block down is to acknowledge it all the same.
			s = shared(t, c)
			w := qWrite(1, 7, 3, 4, "xy")
			checkHear(t, s, 1, w, rInv(0, 3, 1), rInv(2, 3, 1))
			checkHear(t, s, 0, qDemote(3, level, "ab"))
			checkSharers(t, s, 3, 2)
			checkHear(t, s, 2, qAck(3, 1))
			checkWaits(t, s, 0, true)
			checkSharers(t, s, 3)
			checkHear(t, s, 0, qAck(3, 1), aWrite(1, 11, w))
			checkBlocks(t, s)

			// A block that is called back.
			s = shared(t, c)
			checkArray(t, s, bInv(3), rInv(0, 3, 1), rInv(2, 3, 1))
			checkHear(t, s, 2, qDemote(3, level, "ab"))
			checkBlocks(t, s)
			checkSharers(t, s, 3, 0)
			checkHear(t, s, 0, qAck(3, 1))
			checkWaits(t, s, 0, true)
			checkHear(t, s, 2, qAck(3, 1))
			checkWaits(t, s, 0, false)
		}
	}
}

// TestDemoteOfWhatWaits: a request of the block that waits isn't one that the server is at, nor is one of another block, nor one that is at its end.
func TestDemoteOfWhatWaits(t *testing.T) {
	for _, c := range exclusives() {
		s := shared(t, c)
		q := qRead(1, 7, 6, 4)
		checkHear(t, s, 1, q, aRead(6, 4))
		next := qRead(1, 8, 3, 1)
		checkHear(t, s, 2, next)
		checkHear(t, s, 0, qDemote(3, 2, "ab"))
		checkBlocks(t, s, 3)
		checkWaits(t, s, 1, true)
		checkArray(t, s, bData(6, "cd"), rData(1, q, api.OK, false, "cd"), rData(2, next, api.OK, true, "ab"))
		checkBlocks(t, s)
		checkHear(t, s, 2, qDemote(3, 3, "ab"), aDemote(3, "ab"))
	}
}

// TestDemoteOfBlockNought: where the server is at nothing it is at no request of block 0, either.
func TestDemoteOfBlockNought(t *testing.T) {
	for _, c := range []api.Config{plain(2, 2), queued(2, 2), leveled(2)} {
		s := ready(t, c)
		share(t, s, 1, 0)
		checkHear(t, s, 1, qDemote(0, 2, "ab"))
		checkHeld(t, s, frame(0, "ab"))
	}
}

// TestDemoteUnready: it is heard though the server isn't ready.
func TestDemoteUnready(t *testing.T) {
	for _, c := range exclusives() {
		s := shared(t, c)
		checkTold(t, "Gone", s.Gone(0))
		checkHear(t, s, 1, qDemote(4, 2, "ab"))
		checkHear(t, s, 2, qDemote(3, 3, "cd"), aDemote(3, "cd"))
		checkBlocks(t, s, 4)
		checkSharers(t, s, 3)
		checkSharers(t, s, 4)
	}
}
