package server_test

import (
	"slices"
	"testing"

	"gradine/api"
)

// spoil writes all over l and its spare room.
func spoil[T any](l []T, x T) {
	l = l[:cap(l)]
	for i := range l {
		l[i] = x
	}
}

// spoilAll writes all over what was told, and the bytes of it.
func spoilAll(l []api.Told) {
	for _, x := range l {
		spoil(x.M.Data, '!')
	}
	spoil(l, api.Told{To: 77, M: api.Msg{Kind: 77}})
}

// roomy is a message whose bytes stand at the front of a greater list, which is told too.
func roomy(m api.Msg) (api.Msg, []byte) {
	all := append(slices.Clone(m.Data), "......"...)
	m.Data = all[:len(m.Data)]
	return m, all
}

// checkRoom tells where bytes that were handed in, or what is behind them, were changed; then it spoils them.
func checkRoom(t *testing.T, all []byte, want string) {
	t.Helper()
	if string(all) != want+"......" {
		t.Errorf("%q, not %q", all, want)
	}
	spoil(all, '!')
}

// TestWrittenBytesAreNotKept: who changes a write's bytes, spare room included, be it when the write waits, is called back or is at the array, changes neither what the array is told nor what is held; nor does who changes what was told.
func TestWrittenBytesAreNotKept(t *testing.T) {
	for _, c := range kinds() {
		s := shared(t, c)
		first, all := roomy(qWrite(0, 1, 3, 2, "ab"))
		checkHear(t, s, 1, first, rInv(0, 3, 1), rInv(2, 3, 1))
		second, other := roomy(qWrite(0, 2, 5, 2, "cd"))
		checkHear(t, s, 2, second)
		checkRoom(t, all, "ab")
		checkRoom(t, other, "cd")
		one, two := qWrite(0, 1, 3, 2, "ab"), qWrite(0, 2, 5, 2, "cd")
		s.Hear(0, qAck(3, 1))
		told := s.Hear(2, qAck(3, 1))
		checkTold(t, "QAck", told, aWrite(1, 11, one))
		spoilAll(told)
		grant := c.Mode != api.MExclusive
		told = s.Hear(api.ToArray, bDone(1, 11, one, api.OK, true))
		checkTold(t, "BDone", told, rDone(1, one, api.OK, grant), aWrite(2, 12, two))
		spoilAll(told)
		q := qRead(1, 7, 3, 2)
		s.Hear(api.ToArray, bDone(2, 12, two, api.OK, false))
		checkHear(t, s, 0, q, rData(0, q, api.OK, grant, "ab"))
	}
}

// TestReadBytesAreNotKept: nor are those that the array told.
func TestReadBytesAreNotKept(t *testing.T) {
	for _, c := range kinds() {
		s := ready(t, c)
		q := qRead(1, 7, 3, 2)
		checkHear(t, s, 2, q, aRead(3, 2))
		m, all := roomy(bData(3, "ab"))
		told := s.Hear(api.ToArray, m)
		checkRoom(t, all, "ab")
		grant := c.Mode != api.MExclusive
		checkTold(t, "BData", told, rData(2, q, api.OK, grant, "ab"))
		spoilAll(told)
		for range 3 {
			told = s.Hear(2, q)
			checkTold(t, "QRead", told, rData(2, q, api.OK, grant, "ab"))
			spoilAll(told)
		}
	}
}

// TestDemotedBytesAreNotKept: nor are those of a block that is handed down, and on.
func TestDemotedBytesAreNotKept(t *testing.T) {
	for _, c := range exclusives() {
		s := shared(t, c)
		m, all := roomy(qDemote(3, 2, "ab"))
		checkHear(t, s, 0, m)
		checkRoom(t, all, "ab")
		m, all = roomy(qDemote(4, 2, "cd"))
		checkHear(t, s, 1, m)
		checkRoom(t, all, "cd")
		share(t, s, 1, 5)
		m, all = roomy(qDemote(5, 3, "ef"))
		told := s.Hear(1, m)
		checkRoom(t, all, "ef")
		checkTold(t, "QDemote", told, aDemote(5, "ef"))
		checkHeld(t, s, frame(4, "cd"), frame(3, "ab"))
	}
}

// TestBytesOfOneAnswer: those that the array and the client are told at once are two lists.
func TestBytesOfOneAnswer(t *testing.T) {
	for _, c := range exclusives() {
		s := ready(t, c)
		fetch(t, s, 0, 3, 2, "ab")
		q := qRead(1, 7, 3, 3)
		told := s.Hear(1, q)
		spoil(told[0].M.Data, '!')
		checkTold(t, "QRead", told[1:], rData(1, q, api.OK, false, "ab"))
		checkHear(t, s, 2, q, aRead(3, 3))
	}
}

// TestConfigurationIsNotKept: who changes its hints changes no server; they aren't changed either.
func TestConfigurationIsNotKept(t *testing.T) {
	c := parted()
	c.Hints = append(c.Hints, api.Hint{From: 15, Size: 2, Often: 3})[:2]
	was := slices.Clone(c.Hints[:3])
	s := ready(t, c)
	fetch(t, s, 0, 3, 2, "ab")
	if !slices.Equal(c.Hints[:3], was) {
		t.Errorf("%v, not %v", c.Hints[:3], was)
	}
	spoil(c.Hints, api.Hint{From: 8, Size: 40, Often: -3})
	fetch(t, s, 0, 4, 2, "cd")
	checkTold(t, "fetch", fetch(t, s, 0, 5, 2, "ef"), aDemote(3, "ab"), rData(0, qRead(0, 1, 5, 2), api.OK, false, "ef"))
	fetch(t, s, 0, 0, 2, "gh")
	checkHeld(t, s, frame(5, "ef"), frame(4, "cd"))
	if !s.Reset() {
		t.Error("Reset: false")
	}
	fetch(t, s, 0, 0, 2, "gh")
	fetch(t, s, 0, 2, 2, "gh")
	checkBlocks(t, s, 2)
}

// TestWhatIsAnsweredIsNew: who changes it, spare room included, changes neither the server nor another answer.
func TestWhatIsAnsweredIsNew(t *testing.T) {
	for _, c := range kinds() {
		s := shared(t, c)
		one, other := s.Sharers(3), s.Sharers(3)
		spoil(one, 77)
		if !slices.Equal(other, []int{0, 2}) {
			t.Error(other)
		}
		if c.Mode == api.MExclusive {
			fetch(t, s, 1, 4, 2, "zz")
		}
		one, other = s.Blocks(), s.Blocks()
		spoil(one, 77)
		checkBlocks(t, s, other...)
		told := s.Hear(1, qWrite(0, 1, 3, 4, "ab"))
		spoilAll(told)
		checkSharers(t, s, 3, 0, 2)
		s.Hear(0, qAck(3, 1))
		checkHear(t, s, 2, qAck(3, 1), aWrite(1, 11, qWrite(0, 1, 3, 4, "ab")))
	}
}

// TestAskingChangesNothing: nor does it use what is held.
func TestAskingChangesNothing(t *testing.T) {
	for _, c := range kinds() {
		s := calling(t, c)
		want := s.Blocks()
		for range 5 {
			s.Queue()
			s.Busy()
			s.Ready()
			for b := range 40 {
				s.Sharers(b - 3)
			}
			s.Reset()
		}
		checkBlocks(t, s, want...)
		checkSharers(t, s, 3, 0, 2)
		checkHear(t, s, 0, qAck(3, 1))
		checkHear(t, s, 2, qAck(3, 1))
		checkWaits(t, s, 0, false)
	}
}

// TestServersAreApart: what one hears isn't another one's.
func TestServersAreApart(t *testing.T) {
	for _, c := range kinds() {
		one, other := shared(t, c), bare(t, c)
		checkArray(t, one, bInv(3), rInv(0, 3, 1), rInv(2, 3, 1))
		checkReady(t, other, false)
		checkWaits(t, other, 0, false)
		checkBlocks(t, other)
		checkSharers(t, other, 3)
		other.Gone(0)
		checkSharers(t, one, 3, 0, 2)
		checkReady(t, one, true)
	}
}
