package server_test

import (
	"math"
	"testing"

	"gradine/api"
	"gradine/server"
)

// written has a client write a block, which nobody shares, and answers what is told when the array did it just now. Client i's boot is 10 + i.
func written(t *testing.T, s *server.Server, client int, q api.Msg) []api.Told {
	t.Helper()
	checkTold(t, "a write", s.Hear(client, q), aWrite(client, 10+client, q))
	return s.Hear(api.ToArray, bDone(client, 10+client, q, api.OK, true))
}

// TestWrite: it goes to the array with its boot, its number, its level and its bytes; the answer hasn't the bytes.
func TestWrite(t *testing.T) {
	for _, c := range kinds() {
		for _, level := range levels() {
			for _, data := range []string{"", "a", "ab", "0123456789abcdef0123456789abcdef0123456789abcdef0123456789abcdef"} {
				for _, op := range []int{0, 1, great} {
					s := ready(t, c)
					q := qWrite(1, op, 3, level, data)
					checkHear(t, s, 2, q, aWrite(2, 12, q))
					checkWaits(t, s, 0, true)
					checkBlocks(t, s)
					grant := c.Mode != api.MExclusive || level == 1
					checkArray(t, s, bDone(2, 12, q, api.OK, true), rDone(2, q, api.OK, grant))
					checkWaits(t, s, 0, false)
					if grant {
						checkSharers(t, s, 3, 2)
					} else {
						checkSharers(t, s, 3)
					}
				}
			}
		}
	}
}

// TestWriteIsThere: with MInclusive and MNine the block is in the cache then, with the bytes written; it is used, if it was there.
func TestWriteIsThere(t *testing.T) {
	for _, mode := range []int{api.MInclusive, api.MNine} {
		for _, level := range levels() {
			s := ready(t, plain(mode, 3))
			fetch(t, s, 1, 4, 0, "cd")
			s.Hear(1, qAck(4, 0))
			for op, data := range []string{"ab", "ef", "gh"} {
				q := qWrite(0, op, 3, level, data)
				checkTold(t, "a write", written(t, s, 2, q), rDone(2, q, api.OK, true))
				checkHeld(t, s, frame(3, data), frame(4, "cd"))
				s.Hear(0, qAck(3, 0))
				s.Hear(2, qAck(3, 0))
				s.Hear(1, qRead(0, 1, 4, 0))
				s.Hear(1, qAck(4, 0))
				checkBlocks(t, s, 4, 3)
			}
		}
	}
}

// TestWriteIsThereExclusive: with MExclusive it is there of level 2 alone, if it is taken, whether it was there or not.
func TestWriteIsThereExclusive(t *testing.T) {
	for _, c := range exclusives() {
		for _, level := range levels() {
			for _, b := range []int{0, 3, 7} {
				s := ready(t, c)
				q := qWrite(1, 7, b, level, "ab")
				for range 3 {
					checkTold(t, "a write", written(t, s, 2, q), rDone(2, q, api.OK, level == 1))
					s.Hear(2, qAck(b, 0))
					if level == 2 && (c.Place != api.PKarma || b == 3) {
						checkHeld(t, s, frame(b, "ab"))
					} else {
						checkBlocks(t, s)
					}
				}
				if b == 3 {
					written(t, s, 0, qWrite(0, 8, b, 2, "cd"))
					checkHeld(t, s, frame(b, "cd"))
					written(t, s, 2, qWrite(0, 8, b, 4, "ef"))
					checkBlocks(t, s)
				}
			}
		}
	}
}

// TestWriteBeginsAnewInTheOrder: with MExclusive a block that is written isn't in the cache any more ahead of its being put there: an MQ knows nothing then of how often it was used.
func TestWriteBeginsAnewInTheOrder(t *testing.T) {
	s := ready(t, queued(api.MExclusive, 2))
	fetch(t, s, 0, 3, 2, "ab")
	fetch(t, s, 0, 4, 2, "cd")
	s.Hear(0, qRead(0, 1, 3, 2))
	s.Hear(0, qRead(0, 1, 3, 2))
	s.Hear(0, qRead(0, 1, 3, 2)) // used four times
	q := qWrite(0, 1, 3, 2, "ef")
	checkTold(t, "a write", written(t, s, 1, q), rDone(1, q, api.OK, false))
	checkBlocks(t, s, 3, 4)
	s.Hear(0, qRead(0, 1, 4, 2)) // used twice
	checkBlocks(t, s, 4, 3)
}

// TestWriteUsesOnce: with MInclusive and MNine a block that is there and is written is used once.
func TestWriteUsesOnce(t *testing.T) {
	for _, mode := range []int{api.MInclusive, api.MNine} {
		s := ready(t, queued(mode, 2))
		for _, b := range []int{3, 4} {
			fetch(t, s, 0, b, 0, "ab")
			s.Hear(0, qAck(b, 0))
			s.Hear(0, qRead(0, 1, b, 0)) // used twice
			s.Hear(0, qAck(b, 0))
		}
		checkBlocks(t, s, 4, 3)
		written(t, s, 1, qWrite(0, 1, 3, 0, "ef")) // three times
		checkBlocks(t, s, 3, 4)
		s.Hear(0, qRead(0, 1, 4, 0)) // three times
		checkBlocks(t, s, 4, 3)
		s.Hear(0, qRead(0, 1, 3, 0)) // four times
		s.Hear(0, qAck(4, 0))
		checkBlocks(t, s, 3, 4)
		s.Hear(0, qRead(0, 1, 4, 0)) // four times
		checkBlocks(t, s, 4, 3)
	}
}

// TestWriteRefused: with an error, or where the array didn't do it just now, it is answered, and that is all: the cache stays as it is, nobody shares the block, and it may be below as before.
func TestWriteRefused(t *testing.T) {
	for _, c := range kinds() {
		for _, level := range levels() {
			for _, x := range []struct {
				code  api.Errno
				grant bool
			}{{api.OK, false}, {api.ErrLast, false}, {api.ErrSize, false}, {api.ErrShort, true}, {api.ErrWait, true}} {
				s := ready(t, c)
				fetch(t, s, 1, 3, 2, "ab")
				fetch(t, s, 1, 4, 2, "cd")
				s.Hear(1, qAck(3, 0))
				q := qWrite(1, 7, 3, level, "xy")
				checkHear(t, s, 2, q, aWrite(2, 12, q))
				checkArray(t, s, bDone(2, 12, q, x.code, x.grant), rDone(2, q, x.code, false))
				checkSharers(t, s, 3)
				checkWaits(t, s, 0, false)
				checkHeld(t, s, frame(4, "cd"), frame(3, "ab"))
			}
		}
	}
}

// TestWriteBelow: with MExclusive a block that was written isn't below then, unless it was for level 3; of a write that was refused that stays as it is.
func TestWriteBelow(t *testing.T) {
	for _, c := range exclusives() {
		s := ready(t, c)
		written(t, s, 2, qWrite(0, 7, 3, 3, "ab"))
		written(t, s, 2, qWrite(0, 8, 3, 1, "cd"))
		checkBelow(t, s, 2, 3, false)

		// Nobody shares a block whose write was done, so that only one that is refused can be asked for what was before.
		for _, before := range []int{3, 4} {
			s = ready(t, c)
			share(t, s, 0, 3)
			fetch(t, s, 1, 3, before, "zz")
			q := qWrite(0, 7, 4, 3, "ab")
			checkHear(t, s, 2, q, aWrite(2, 12, q))
			checkArray(t, s, bDone(2, 12, q, api.OK, false), rDone(2, q, api.OK, false))
			checkBelow(t, s, 0, 3, before == 3)
		}
	}
}

// TestBDoneOfAnother: of another write, of none, or of one that isn't at the array as yet, it is nothing.
func TestBDoneOfAnother(t *testing.T) {
	for _, c := range kinds() {
		s := ready(t, c)
		checkArray(t, s, bDone(0, 0, api.Msg{}, api.OK, true))
		share(t, s, 0, 3)
		s.Hear(0, qAck(3, 0))
		q := qWrite(1, 7, 3, 1, "ab")
		checkHear(t, s, 2, q, aWrite(2, 12, q))
		for _, n := range []int{-1, 1, math.MaxInt} {
			for _, f := range []func(m *api.Msg) *int{
				func(m *api.Msg) *int { return &m.Client },
				func(m *api.Msg) *int { return &m.Slot },
				func(m *api.Msg) *int { return &m.Boot },
				func(m *api.Msg) *int { return &m.Op },
				func(m *api.Msg) *int { return &m.Block },
			} {
				m := bDone(2, 12, q, api.OK, true)
				*f(&m) += n
				checkArray(t, s, m)
			}
		}
		checkArray(t, s, bData(3, "xy"))
		checkArray(t, s, bNone(3, api.ErrBlock))
		checkWaits(t, s, 0, true)
		checkSharers(t, s, 3)
		checkArray(t, s, bDone(2, 12, q, api.OK, true), rDone(2, q, api.OK, true))
		checkArray(t, s, bDone(2, 12, q, api.OK, true))
		checkSharers(t, s, 3, 2)
		checkWaits(t, s, 0, false)
		r := qRead(1, 7, 4, 1)
		checkHear(t, s, 2, r, aRead(4, 1))
		checkArray(t, s, bDone(2, 12, r, api.OK, true))
		checkWaits(t, s, 0, true)
	}
}

// TestBDoneAheadOfItsTime: as long as a write's block is called back it isn't at the array, so that nothing can be done of it.
func TestBDoneAheadOfItsTime(t *testing.T) {
	for _, c := range kinds() {
		s := ready(t, c)
		share(t, s, 0, 3)
		q := qWrite(1, 7, 3, 1, "ab")
		checkHear(t, s, 2, q, rInv(0, 3, 1))
		checkArray(t, s, bDone(2, 12, q, api.OK, true))
		checkHear(t, s, 0, qAck(3, 1), aWrite(2, 12, q))
		checkArray(t, s, bDone(2, 12, q, api.OK, true), rDone(2, q, api.OK, true))
	}
}

// TestWriteMakesOneGo: what goes for a write goes as for a read: called back behind the answer, handed down ahead of it, or told to nobody.
func TestWriteMakesOneGo(t *testing.T) {
	for _, c := range kinds() {
		s := ready(t, c)
		fetch(t, s, 0, 3, 2, "ab")
		fetch(t, s, 0, 4, 2, "cd")
		q := qWrite(0, 1, 5, 2, "ef")
		got := written(t, s, 1, q)
		switch c.Mode {
		case api.MInclusive:
			checkTold(t, "a write", got, rDone(1, q, api.OK, true), rInv(0, 3, 2))
			checkWaits(t, s, 0, true)
			checkArray(t, s, bDone(1, 11, q, api.OK, true))
			checkHear(t, s, 0, qAck(3, 2))
		case api.MExclusive:
			checkTold(t, "a write", got, aDemote(3, "ab"), rDone(1, q, api.OK, false))
		case api.MNine:
			checkTold(t, "a write", got, rDone(1, q, api.OK, true))
		}
		checkWaits(t, s, 0, false)
		checkHeld(t, s, frame(5, "ef"), frame(4, "cd"))
	}
}

// TestWriteGoneBelow: with MExclusive what goes for a write may be below then.
func TestWriteGoneBelow(t *testing.T) {
	for _, c := range exclusives() {
		s := ready(t, c)
		share(t, s, 2, 3)
		fetch(t, s, 0, 3, 2, "ab")
		fetch(t, s, 0, 4, 2, "cd")
		written(t, s, 1, qWrite(0, 1, 5, 2, "ef"))
		checkBelow(t, s, 2, 3, true)
	}
}
