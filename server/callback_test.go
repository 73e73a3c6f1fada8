package server_test

import (
	"math/rand"
	"testing"

	"gradine/api"
	"gradine/server"
)

// shared is a server whose clients 0 and 2 share block 3, and client 1 block 4.
func shared(t *testing.T, c api.Config) *server.Server {
	t.Helper()
	s := ready(t, c)
	share(t, s, 0, 3)
	if c.Mode == api.MExclusive {
		share(t, s, 2, 3)
	} else {
		checkHear(t, s, 2, qRead(1, 1, 3, 1), rData(2, qRead(1, 1, 3, 1), api.OK, true, "zz"))
	}
	share(t, s, 1, 4)
	checkSharers(t, s, 3, 0, 2)
	checkSharers(t, s, 4, 1)
	return s
}

// TestWriteCallsBack: each client that shares the block, rising, is told to drop it; the array has the write when all have acknowledged it.
func TestWriteCallsBack(t *testing.T) {
	for _, c := range kinds() {
		for _, order := range [][2]int{{0, 2}, {2, 0}} {
			s := shared(t, c)
			q := qWrite(1, 7, 3, 1, "ab")
			checkHear(t, s, 1, q, rInv(0, 3, 1), rInv(2, 3, 1))
			checkWaits(t, s, 0, true)
			checkSharers(t, s, 3, 0, 2)
			checkHear(t, s, order[0], qAck(3, 1))
			checkSharers(t, s, 3, order[1])
			checkWaits(t, s, 0, true)
			checkHear(t, s, order[0], qAck(3, 1))
			checkHear(t, s, order[1], qAck(3, 1), aWrite(1, 11, q))
			checkSharers(t, s, 3)
			checkHear(t, s, order[1], qAck(3, 1))
			checkArray(t, s, bDone(1, 11, q, api.OK, true), rDone(1, q, api.OK, true))
			checkSharers(t, s, 3, 1)
			checkSharers(t, s, 4, 1)
		}
	}
}

// TestWriterIsCalledBack: a client that shares the block that it writes is told to drop it, too.
func TestWriterIsCalledBack(t *testing.T) {
	for _, c := range kinds() {
		s := shared(t, c)
		q := qWrite(1, 7, 3, 1, "ab")
		checkHear(t, s, 2, q, rInv(0, 3, 1), rInv(2, 3, 1))
		checkHear(t, s, 2, qAck(3, 1))
		checkHear(t, s, 0, qAck(3, 1), aWrite(2, 12, q))
	}
}

// TestCachedTillWritten: the cache has a block that is written till the array did that, though it is called back from clients.
func TestCachedTillWritten(t *testing.T) {
	for _, c := range kinds() {
		s := ready(t, c)
		fetch(t, s, 0, 3, 2, "ab")
		q := qWrite(1, 7, 3, 4, "xy")
		s.Hear(1, q)
		checkBlocks(t, s, 3)
		s.Hear(0, qAck(3, 1))
		checkBlocks(t, s, 3)
		checkArray(t, s, bDone(1, 11, q, api.ErrLast, false), rDone(1, q, api.ErrLast, false))
		checkHeld(t, s, frame(3, "ab"))
	}
}

// TestRounds: each block that is called back has the next round, also where nobody shares it, and for whatever it is.
func TestRounds(t *testing.T) {
	for _, c := range kinds() {
		s := shared(t, c)
		checkArray(t, s, bInv(0))
		checkArray(t, s, bInv(0))
		q := qWrite(0, 7, 5, 4, "ab")
		checkHear(t, s, 1, q, aWrite(1, 11, q))
		checkArray(t, s, bDone(1, 11, q, api.OK, false), rDone(1, q, api.OK, false))
		checkArray(t, s, bInv(4), rInv(1, 4, 4))
		checkHear(t, s, 1, qAck(4, 4))
		checkArray(t, s, bInv(3), rInv(0, 3, 5), rInv(2, 3, 5))
	}
}

// TestAckOfAnotherRound: of another round, of another block, or of one of whom it isn't asked, it isn't what the server waits for; the client doesn't share that block any more.
func TestAckOfAnotherRound(t *testing.T) {
	for _, c := range kinds() {
		s := shared(t, c)
		checkArray(t, s, bInv(7))
		q := qWrite(1, 7, 3, 1, "ab")
		checkHear(t, s, 1, q, rInv(0, 3, 2), rInv(2, 3, 2))
		checkHear(t, s, 1, qAck(3, 2))
		checkHear(t, s, 1, qAck(4, 2))
		checkSharers(t, s, 4)
		for _, round := range []int{0, 1, 3, great} {
			checkHear(t, s, 0, qAck(3, round))
			checkSharers(t, s, 3, 2)
		}
		for _, b := range []int{0, 2, 4, 7, 8, 31} {
			checkHear(t, s, 0, qAck(b, 2))
		}
		checkHear(t, s, 2, qAck(3, 2))
		checkSharers(t, s, 3)
		checkWaits(t, s, 0, true)
		checkHear(t, s, 0, qAck(3, 2), aWrite(1, 11, q))
	}
}

// TestAckUnasked: at any time a client that acknowledges a block doesn't share it any more, and no other one's changes.
func TestAckUnasked(t *testing.T) {
	for _, c := range kinds() {
		s := shared(t, c)
		want := s.Blocks()
		checkHear(t, s, 0, qAck(4, 0))
		checkHear(t, s, 1, qAck(3, 0))
		checkHear(t, s, 0, qAck(31, 0))
		checkSharers(t, s, 3, 0, 2)
		checkSharers(t, s, 4, 1)
		checkHear(t, s, 0, qAck(3, 0))
		checkSharers(t, s, 3, 2)
		checkHear(t, s, 1, qAck(4, great))
		checkSharers(t, s, 4)
		checkBlocks(t, s, want...)
		checkWaits(t, s, 0, false)
		q := qWrite(0, 7, 4, 1, "ab")
		checkHear(t, s, 0, q, aWrite(0, 10, q))
	}
}

// TestCallBack: a block that the array lets it drop isn't in the cache any more, and is called back; that is all.
func TestCallBack(t *testing.T) {
	for _, c := range kinds() {
		s := shared(t, c)
		if c.Mode == api.MExclusive {
			fetch(t, s, 1, 4, 2, "ef")
			fetch(t, s, 1, 3, 2, "ab")
		}
		checkArray(t, s, bInv(3), rInv(0, 3, 1), rInv(2, 3, 1))
		checkBlocks(t, s, 4)
		checkWaits(t, s, 0, true)
		checkHear(t, s, 2, qAck(3, 1))
		checkHear(t, s, 0, qAck(3, 1))
		checkWaits(t, s, 0, false)
		checkSharers(t, s, 3)
		checkBlocks(t, s, 4)
		// Once more, and of what there is none of, it is no harm.
		for _, b := range []int{3, 7, 8, 31} {
			checkArray(t, s, bInv(b))
			checkBlocks(t, s, 4)
			checkSharers(t, s, 4, 1)
			checkWaits(t, s, 0, false)
		}
	}
}

// TestCallBackWaits: it is queued as other requests are, and does nothing till it is its turn.
func TestCallBackWaits(t *testing.T) {
	for _, c := range kinds() {
		s := shared(t, c)
		want := s.Blocks()
		q := qRead(1, 7, 6, 4)
		checkHear(t, s, 1, q, aRead(6, 4))
		checkArray(t, s, bInv(3))
		checkArray(t, s, bInv(3))
		checkWaits(t, s, 2, true)
		checkBlocks(t, s, want...)
		checkSharers(t, s, 3, 0, 2)
		checkArray(t, s, bNone(6, api.ErrBlock), rData(1, q, api.ErrBlock, false, ""), rInv(0, 3, 1), rInv(2, 3, 1))
		checkWaits(t, s, 1, true)
		checkHear(t, s, 0, qAck(3, 1))
		checkHear(t, s, 2, qAck(3, 1))
		checkWaits(t, s, 0, false)
		checkArray(t, s, bInv(4), rInv(1, 4, 3))
	}
}

// TestCallBackAheadOfSessions: what the array lets it drop waits till the server is ready; no client's end takes it out of the queue.
func TestCallBackAheadOfSessions(t *testing.T) {
	for _, c := range kinds() {
		s := bare(t, c)
		checkArray(t, s, bInv(3))
		checkWaits(t, s, 1, true)
		for i := range clients {
			checkTold(t, "Gone", s.Gone(i))
			checkWaits(t, s, 1, true)
		}
		for i := range clients {
			checkTold(t, "Up", s.Up(i, 1))
		}
		checkWaits(t, s, 1, true)
		checkTold(t, "ArrayUp", s.ArrayUp())
		checkWaits(t, s, 0, false)
	}
}

// TestAWriteIsAlone: whatever was shared, and in whichever order it is acknowledged, handed down, or its clients' sessions end, a write goes to the array only when nobody shares its block.
func TestAWriteIsAlone(t *testing.T) {
	for seed := range int64(400) {
		r := rand.New(rand.NewSource(seed))
		c := kinds()[r.Intn(len(kinds()))]
		c.Clients = 1 + r.Intn(4)
		s := ready(t, c)
		var waits []api.Told
		for range 150 {
			var told []api.Told
			if told, waits = disturb(s, r, c, waits); len(told) > 0 {
				last := told[len(told)-1].M
				if l := s.Sharers(last.Block); last.Kind == api.AWrite && len(l) > 0 {
					t.Fatalf("seed %d: block %d is written, and %v share it", seed, last.Block, l)
				}
			}
			waits = append(waits, told...)
		}
	}
}

// disturb has a client ask for something, be gone, or acknowledge what it isn't asked, or answers one of what waits for that: what is told then, and what waits still.
func disturb(s *server.Server, r *rand.Rand, c api.Config, waits []api.Told) (told, left []api.Told) {
	client, b := r.Intn(c.Clients), 3+r.Intn(3)
	switch r.Intn(12) {
	case 0, 1:
		return s.Hear(client, qWrite(r.Intn(slots), r.Intn(9), b, 1, "ab")), waits
	case 2, 3:
		return s.Hear(client, qRead(r.Intn(slots), r.Intn(9), b, 1)), waits
	case 4:
		return s.Hear(client, qDemote(b, 2+r.Intn(2), "ab")), waits
	case 5:
		return s.Hear(client, qAck(b, r.Intn(3))), waits
	case 6:
		told = s.Gone(client)
		if len(told) == 0 {
			told = s.Up(client, 10+client)
		}
		return told, waits
	}
	if len(waits) == 0 {
		return s.Up(client, 10+client), waits
	}
	i := r.Intn(len(waits))
	x := waits[i]
	left = append(waits[:i:i], waits[i+1:]...)
	switch m := x.M; m.Kind {
	case api.RInv:
		told = s.Hear(x.To, qAck(m.Block, m.Round))
	case api.ARead:
		told = s.Hear(x.To, bData(m.Block, "ab"))
	case api.AWrite:
		told = s.Hear(x.To, bDone(m.Client, m.Boot, m, api.OK, true))
	}
	return told, left
}
