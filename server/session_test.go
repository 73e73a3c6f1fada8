package server_test

import (
	"math"
	"testing"

	"gradine/api"
	"gradine/server"
)

// TestReady: a server is, as long as there is a session with each client, and one with the array, in whichever order they come.
func TestReady(t *testing.T) {
	for n := 1; n <= 4; n++ {
		for array := range n + 1 {
			c := plain(api.MInclusive, 2)
			c.Clients = n
			s := bare(t, c)
			for i := range n + 1 {
				checkReady(t, s, false)
				if i == array {
					checkTold(t, "ArrayUp", s.ArrayUp())
				}
				if i < n && i != array {
					checkTold(t, "Up", s.Up(i, 1+i))
				}
			}
			if array < n {
				checkReady(t, s, false)
				checkTold(t, "Up", s.Up(array, great))
			}
			checkReady(t, s, true)
			for i := range n {
				checkTold(t, "Gone", s.Gone(i))
				checkReady(t, s, false)
				checkTold(t, "Gone", s.Gone(i))
				checkTold(t, "ArrayUp", s.ArrayUp())
				checkReady(t, s, false)
				checkTold(t, "Up", s.Up(i, 7))
				checkReady(t, s, true)
			}
		}
	}
}

// TestUpOfNone: of no such client, or of a boot below 1, it is nothing.
func TestUpOfNone(t *testing.T) {
	s := ready(t, plain(api.MInclusive, 2))
	s.Gone(1)
	s.Hear(0, qRead(0, 1, 3, 0))
	for _, x := range [][2]int{{-1, 1}, {-2, 1}, {3, 1}, {4, 1}, {math.MinInt, 1}, {math.MaxInt, 1}, {1, 0}, {1, -1}, {1, math.MinInt}, {-1, 0}} {
		checkTold(t, "Up", s.Up(x[0], x[1]))
		checkReady(t, s, false)
		checkWaits(t, s, 1, true)
	}
	// With a boot below 1 a session that there is stays, with its boot.
	checkTold(t, "Up", s.Up(0, 0))
	checkHear(t, s, 0, qWrite(0, 2, 4, 0, "ab"))
	checkTold(t, "Up", s.Up(1, 1), aRead(3, 0))
	checkArray(t, s, bData(3, "ab"), rData(0, qRead(0, 1, 3, 0), api.OK, true, "ab"), aWrite(0, 10, qWrite(0, 2, 4, 0, "ab")))
}

// TestGoneOfNone: of no such client it is nothing.
func TestGoneOfNone(t *testing.T) {
	s := shared(t, plain(api.MNine, 2))
	q := qWrite(0, 1, 3, 0, "ab")
	checkHear(t, s, 1, q, rInv(0, 3, 1), rInv(2, 3, 1))
	for _, client := range []int{-1, -2, 3, 4, 64, -64, math.MaxInt, math.MinInt} {
		checkTold(t, "Gone", s.Gone(client))
		checkSharers(t, s, 3, 0, 2)
		checkSharers(t, s, 4, 1)
		checkWaits(t, s, 0, true)
		checkReady(t, s, true)
	}
	checkHear(t, s, 0, qAck(3, 1))
	checkHear(t, s, 2, qAck(3, 1), aWrite(1, 11, q))
	checkArray(t, s, bDone(1, 11, q, api.OK, true), rDone(1, q, api.OK, true))
}

// TestWaitsTillReady: what is asked of a server that isn't ready waits; it goes on when it is, whoever was the last one to come.
func TestWaitsTillReady(t *testing.T) {
	for _, c := range kinds() {
		s := bare(t, c)
		checkTold(t, "Up", s.Up(2, 5))
		one, two := qWrite(0, 1, 3, 4, "ab"), qRead(1, 2, 4, 4)
		checkHear(t, s, 2, one)
		checkHear(t, s, 2, two)
		checkTold(t, "Up", s.Up(0, 1))
		checkTold(t, "ArrayUp", s.ArrayUp())
		checkWaits(t, s, 2, true)
		checkTold(t, "Up", s.Up(1, 1), aWrite(2, 5, one))
		checkWaits(t, s, 1, true)

		s = bare(t, c)
		for i := range clients {
			checkTold(t, "Up", s.Up(i, 5))
		}
		checkHear(t, s, 2, one)
		checkWaits(t, s, 1, true)
		checkTold(t, "ArrayUp", s.ArrayUp(), aWrite(2, 5, one))
		checkWaits(t, s, 0, true)
	}
}

// TestGoesOnUnready: what the server is at goes on though it isn't ready any more; the next request isn't begun.
func TestGoesOnUnready(t *testing.T) {
	for _, c := range kinds() {
		s := shared(t, c)
		one, two := qWrite(0, 1, 3, 1, "ab"), qRead(1, 2, 7, 4)
		checkHear(t, s, 1, one, rInv(0, 3, 1), rInv(2, 3, 1))
		checkHear(t, s, 1, two)
		checkTold(t, "Gone", s.Gone(0))
		checkSharers(t, s, 3, 2)
		checkHear(t, s, 2, qAck(3, 1), aWrite(1, 11, one))
		checkArray(t, s, bDone(1, 11, one, api.OK, true), rDone(1, one, api.OK, true))
		checkSharers(t, s, 3, 1)
		checkWaits(t, s, 1, true)
		checkTold(t, "ArrayUp", s.ArrayUp())
		checkTold(t, "Up", s.Up(1, 11))
		checkTold(t, "Up", s.Up(0, 90), aRead(7, 4))
	}
}

// TestGoneAcknowledges: what a client was to acknowledge counts as acknowledged when its session ends; what others were to stays.
func TestGoneAcknowledges(t *testing.T) {
	for _, c := range kinds() {
		s := shared(t, c)
		q := qWrite(0, 1, 3, 1, "ab")
		checkHear(t, s, 1, q, rInv(0, 3, 1), rInv(2, 3, 1))
		checkTold(t, "Gone", s.Gone(2))
		checkSharers(t, s, 3, 0)
		checkTold(t, "Gone", s.Gone(2))
		checkTold(t, "Up", s.Up(2, 90))
		checkHear(t, s, 2, qAck(3, 1))
		checkTold(t, "Gone", s.Gone(0), aWrite(1, 11, q))
		checkSharers(t, s, 3)
		checkTold(t, "Gone", s.Gone(0))

		s = shared(t, c)
		checkArray(t, s, bInv(3), rInv(0, 3, 1), rInv(2, 3, 1))
		checkTold(t, "Gone", s.Gone(0))
		checkWaits(t, s, 0, true)
		checkTold(t, "Gone", s.Gone(2))
		checkWaits(t, s, 0, false)
	}
}

// TestGoneShares: a client whose session ends shares nothing; the others go on sharing, and the cache stays as it is.
func TestGoneShares(t *testing.T) {
	for _, c := range kinds() {
		c.Cap[1] = 3
		s := shared(t, c)
		share(t, s, 0, 5)
		want := s.Blocks()
		checkTold(t, "Gone", s.Gone(0))
		checkTold(t, "Up", s.Up(0, 90))
		checkSharers(t, s, 5)
		checkSharers(t, s, 3, 2)
		checkSharers(t, s, 4, 1)
		checkBlocks(t, s, want...)
	}
}

// TestGoneQueue: its requests aren't in the queue any more; those of others, and the call-backs, are, in their order.
func TestGoneQueue(t *testing.T) {
	for client := range clients {
		s := ready(t, plain(api.MNine, 2))
		fetch(t, s, 0, 3, 0, "zz")
		checkHear(t, s, 1, qWrite(0, 1, 7, 0, "ab"), aWrite(1, 11, qWrite(0, 1, 7, 0, "ab")))
		checkArray(t, s, bInv(3))
		for i := range clients {
			checkHear(t, s, i, qRead(1, 20+i, i, 0))
			checkHear(t, s, i, qWrite(0, 30+i, 4+i, 0, "cd"))
		}
		checkArray(t, s, bInv(2))
		checkWaits(t, s, 8, true)
		checkTold(t, "Gone", s.Gone(client))
		checkWaits(t, s, 6, true)
		checkBlocks(t, s, 3)
		checkTold(t, "Up", s.Up(client, 90))
		told := s.Hear(api.ToArray, bDone(1, 11, qWrite(0, 1, 7, 0, "ab"), api.OK, false))
		round := 2
		if client != 0 {
			// Block 3 is shared, and is called back ahead of all that waits.
			checkTold(t, "BDone", told[len(told)-1:], rInv(0, 3, round))
			told = s.Hear(0, qAck(3, round))
		}
		for i := range clients {
			if i == client {
				continue
			}
			checkTold(t, "a read", told[len(told)-1:], aRead(i, 0))
			q := qWrite(0, 30+i, 4+i, 0, "cd")
			checkTold(t, "BData", s.Hear(api.ToArray, bNone(i, api.ErrBlock)), rData(i, qRead(1, 20+i, i, 0), api.ErrBlock, false, ""), aWrite(i, 10+i, q))
			told = s.Hear(api.ToArray, bDone(i, 10+i, q, api.ErrLast, false))
		}
		checkWaits(t, s, 0, false)
		checkBlocks(t, s)
	}
}

// TestGoneIsNotTold: nobody is told whose session ended since, be there another one by then, or not, and of the same boot; nor does it share the block. The cache has it all the same.
func TestGoneIsNotTold(t *testing.T) {
	for _, c := range kinds() {
		for _, boot := range []int{0, 12, 13} {
			s := ready(t, c)
			q := qRead(0, 1, 3, 1)
			checkHear(t, s, 2, q, aRead(3, 1))
			checkTold(t, "Gone", s.Gone(2))
			checkTold(t, "Up", s.Up(2, boot))
			checkWaits(t, s, 0, true)
			checkArray(t, s, bData(3, "ab"))
			checkSharers(t, s, 3)
			checkWaits(t, s, 0, false)

			s = ready(t, c)
			w := qWrite(0, 1, 3, 1, "cd")
			checkHear(t, s, 2, w, aWrite(2, 12, w))
			checkTold(t, "Gone", s.Gone(2))
			checkTold(t, "Up", s.Up(2, boot))
			checkArray(t, s, bDone(2, 12, w, api.OK, true))
			checkSharers(t, s, 3)
			checkWaits(t, s, 0, false)
			if c.Mode != api.MExclusive {
				checkBlocks(t, s, 3)
			}

			s = ready(t, c)
			checkHear(t, s, 2, q, aRead(3, 1))
			checkTold(t, "Gone", s.Gone(2))
			checkTold(t, "Up", s.Up(2, boot))
			checkArray(t, s, bNone(3, api.ErrBlock))
			checkWaits(t, s, 0, false)
		}
	}
}

// TestGoneWhileCalledBack: a write whose client is gone goes to the array all the same, with the boot with which it was asked for.
func TestGoneWhileCalledBack(t *testing.T) {
	for _, c := range kinds() {
		s := shared(t, c)
		q := qWrite(0, 1, 3, 1, "ab")
		checkHear(t, s, 1, q, rInv(0, 3, 1), rInv(2, 3, 1))
		checkTold(t, "Gone", s.Gone(1))
		checkTold(t, "Up", s.Up(1, 90))
		checkSharers(t, s, 4)
		checkHear(t, s, 0, qAck(3, 1))
		checkHear(t, s, 2, qAck(3, 1), aWrite(1, 11, q))
		next := qWrite(0, 1, 6, 1, "cd")
		checkHear(t, s, 1, next)
		checkArray(t, s, bDone(1, 11, q, api.OK, true), aWrite(1, 90, next))
		checkSharers(t, s, 3)
		checkArray(t, s, bDone(1, 11, next, api.OK, true))
		checkArray(t, s, bDone(1, 90, next, api.OK, true), rDone(1, next, api.OK, true))
		checkSharers(t, s, 6, 1)
	}
}

// TestGoneCalledBackBehind: with MInclusive what went for a read of a client that is gone is called back all the same.
func TestGoneCalledBackBehind(t *testing.T) {
	s := shared(t, plain(api.MInclusive, 2))
	checkHear(t, s, 1, qRead(0, 1, 5, 0), aRead(5, 0))
	checkTold(t, "Gone", s.Gone(1))
	checkArray(t, s, bData(5, "ab"), rInv(0, 3, 1), rInv(2, 3, 1))
	checkWaits(t, s, 0, true)
	checkHear(t, s, 0, qAck(3, 1))
	checkHear(t, s, 2, qAck(3, 1))
	checkWaits(t, s, 0, false)
	checkBlocks(t, s, 5, 4)
}

// TestAnotherOneGone: the end of another client's session doesn't keep the answer from who asked.
func TestAnotherOneGone(t *testing.T) {
	for _, c := range kinds() {
		for client := range clients {
			s := ready(t, c)
			q := qRead(0, 1, 3, 1)
			checkHear(t, s, client, q, aRead(3, 1))
			for i := range clients {
				if i != client {
					checkTold(t, "Gone", s.Gone(i))
				}
			}
			checkArray(t, s, bData(3, "ab"), rData(client, q, api.OK, true, "ab"))
			checkSharers(t, s, 3, client)
			// What ended ahead of a request isn't that of it.
			for i := range clients {
				checkTold(t, "Gone", s.Gone(i))
				checkTold(t, "Up", s.Up(i, 90))
			}
			checkHear(t, s, client, qRead(0, 2, 6, 1), aRead(6, 1))
			checkArray(t, s, bData(6, "ab"), rData(client, qRead(0, 2, 6, 1), api.OK, true, "ab"))
		}
	}
}

// TestReset: a server that is at nothing, and for which nothing waits, knows of no block then, and nobody shares any; its sessions stay, and its rounds go on.
func TestReset(t *testing.T) {
	for _, c := range kinds() {
		s := shared(t, c)
		fetchAll(t, s)
		checkArray(t, s, bInv(7))
		if !s.Reset() {
			t.Error("Reset: false")
		}
		checkBlocks(t, s)
		for b := range blocks {
			checkSharers(t, s, b)
		}
		checkReady(t, s, true)
		checkWaits(t, s, 0, false)
		share(t, s, 1, 3)
		round := 2
		if c.Mode == api.MInclusive {
			round = 4
		}
		checkHear(t, s, 0, qWrite(0, 1, 3, 1, "ab"), rInv(1, 3, round))
		if s.Reset() {
			t.Error("Reset: true")
		}
	}
}

// fetchAll has a server, whose clients share blocks 3 and 4, have others, too, and what goes be acknowledged.
func fetchAll(t *testing.T, s *server.Server) {
	t.Helper()
	for _, b := range []int{5, 2} {
		for _, x := range fetch(t, s, 1, b, 2, "zz") {
			if x.M.Kind == api.RInv {
				s.Hear(x.To, qAck(x.M.Block, x.M.Round))
			}
		}
	}
	if l := s.Blocks(); len(l) != 2 || l[0] != 2 && l[1] != 2 {
		t.Errorf("Blocks: %v", l)
	}
	checkWaits(t, s, 0, false)
}

// TestResetForgetsGhosts: an MQ that is reset doesn't know how often what went was used.
func TestResetForgetsGhosts(t *testing.T) {
	for _, reset := range []bool{false, true} {
		s := ready(t, queued(api.MNine, 2))
		for _, b := range []int{3, 4} {
			fetch(t, s, 0, b, 0, "zz")
			s.Hear(0, qRead(0, 1, b, 0)) // used twice
		}
		fetch(t, s, 0, 5, 0, "zz") // 3 is a ghost then
		checkBlocks(t, s, 4, 5)
		if !reset {
			fetch(t, s, 0, 3, 0, "zz")
			checkBlocks(t, s, 3, 4)
			continue
		}
		s.Reset()
		fetch(t, s, 0, 3, 0, "zz")
		fetch(t, s, 0, 4, 0, "zz")
		checkBlocks(t, s, 4, 3)
	}
}

// TestResetWhileBusy: of a server that is at something, or for which something waits, it is refused, and changes nothing.
func TestResetWhileBusy(t *testing.T) {
	for _, c := range kinds() {
		s := shared(t, c)
		want := s.Blocks()
		refuse := func(queue int) {
			t.Helper()
			if s.Reset() {
				t.Error("Reset: true")
			}
			checkBlocks(t, s, want...)
			checkSharers(t, s, 4, 1)
			checkWaits(t, s, queue, true)
		}
		checkArray(t, s, bInv(3), rInv(0, 3, 1), rInv(2, 3, 1))
		want = s.Blocks()
		refuse(0)
		s.Hear(2, qAck(3, 1))
		refuse(0)
		s.Hear(0, qAck(3, 1))
		checkWaits(t, s, 0, false)
		s.Hear(1, qRead(0, 1, 7, 4))
		refuse(0)
		s.Hear(1, qRead(1, 2, 6, 4))
		refuse(1)
		s.Gone(0)
		s.Hear(api.ToArray, bNone(7, api.ErrBlock))
		refuse(1)
		s.Up(0, 90)
		s.Hear(api.ToArray, bNone(6, api.ErrBlock))
		if !s.Reset() {
			t.Error("Reset: false")
		}
	}
}

// TestResetUnready: it needs no sessions.
func TestResetUnready(t *testing.T) {
	for _, c := range kinds() {
		s := bare(t, c)
		if !s.Reset() {
			t.Error("Reset: false")
		}
		checkReady(t, s, false)
		s = shared(t, c)
		s.Gone(1)
		if !s.Reset() {
			t.Error("Reset: false")
		}
		checkReady(t, s, false)
		checkSharers(t, s, 3)
		checkBlocks(t, s)
	}
}

// TestResetBelow: with MExclusive each block may be below then.
func TestResetBelow(t *testing.T) {
	for _, c := range exclusives() {
		s := ready(t, c)
		share(t, s, 0, 3)
		if !s.Reset() {
			t.Error("Reset: false")
		}
		// Who hands down a block that it doesn't share any more isn't heard.
		checkHear(t, s, 0, qDemote(3, 2, "ab"))
		checkBlocks(t, s)
		share(t, s, 0, 3)
		checkBelow(t, s, 0, 3, false)
	}
}
