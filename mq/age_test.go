package mq_test

import (
	"strings"
	"testing"

	"gradine/api"
	"gradine/mq"
)

// clock is a block that no test has stand anywhere.
const clock = 40

// pass has so much time go by, where there is room, and changes nothing else.
func pass(t *testing.T, m *mq.MQ, time int) {
	t.Helper()
	for range time {
		checkAdd(t, m, clock, stays)
		checkRemove(t, m, clock, true)
	}
}

// TestExpires: a block stays while the time is when it expires, and is one queue down behind it; in the lowest one it stays.
func TestExpires(t *testing.T) {
	for _, life := range []int{1, 2, 3, 4, 50, 99, maxLife} {
		for _, s := range []string{"1 1", "1 1 1"} {
			m := newMQ(t, 2, 2, life, 0)
			run(t, m, s)
			for range life {
				pass(t, m, 1)
				checkQueues(t, m, "|1")
			}
			pass(t, m, 1)
			checkQueues(t, m, "1|")
			checkOften(t, m, 1, len(strings.Fields(s)))
			pass(t, m, 3*maxLife)
			checkQueues(t, m, "1|")
		}
	}
}

// TestStairs: a block goes down queue by queue, in each of which it lives its whole lifetime.
func TestStairs(t *testing.T) {
	for _, life := range []int{1, 2, 7, maxLife} {
		m := newMQ(t, 2, maxQueues, life, 0)
		run(t, m, strings.Repeat("1 ", 1<<(maxQueues-1)))
		for q := maxQueues - 1; q > 0; q-- {
			for range life {
				pass(t, m, 1)
				checkQueues(t, m, strings.Repeat("|", q)+"1"+bars(maxQueues-q))
			}
			pass(t, m, 1)
			checkQueues(t, m, strings.Repeat("|", q-1)+"1"+bars(maxQueues-q+1))
		}
		checkOften(t, m, 1, 1<<(maxQueues-1))
	}
}

// TestAgedAndUsed: how often a block was used isn't less for its having gone down: the next use places it by all of them.
func TestAgedAndUsed(t *testing.T) {
	for n := 2; n < 20; n++ {
		m := newMQ(t, 2, 5, 1, 0)
		run(t, m, strings.Repeat("1 ", n))
		pass(t, m, 2*maxQueues)
		checkQueues(t, m, "1||||")
		checkUse(t, m, 1, true)
		q := min(halvings(n+1), 4)
		checkQueues(t, m, strings.Repeat("|", q)+"1"+bars(5-q))
		checkOften(t, m, 1, n+1)
	}
}

// TestUsedInTime: a use makes a block live its lifetime anew, also at the very time at which it would go down.
func TestUsedInTime(t *testing.T) {
	for _, life := range []int{1, 3, maxLife} {
		for ahead := range life + 1 {
			m := newMQ(t, 2, 2, life, 0)
			run(t, m, "1 1")
			pass(t, m, ahead)
			checkUse(t, m, 1, true)
			pass(t, m, life)
			checkQueues(t, m, "|1")
			pass(t, m, 1)
			checkQueues(t, m, "1|")
		}
	}
}

// TestTime: it goes on by one with each block that is used, or added, whether it was there or not.
func TestTime(t *testing.T) {
	for _, x := range []struct {
		name string
		do   func(m *mq.MQ)
		want string
	}{
		{"use", func(m *mq.MQ) { checkUse(t, m, 2, true) }, "1|2"},
		{"add what is there", func(m *mq.MQ) { checkAdd(t, m, 2, stays) }, "1|2"},
		{"add what isn't", func(m *mq.MQ) { checkAdd(t, m, 3, stays) }, "1 3 2|"},
	} {
		m := newMQ(t, 3, 2, 2, 0)
		run(t, m, "1 1 2")
		pass(t, m, 1)
		checkQueues(t, m, "2|1")
		x.do(m)
		if checkQueues(t, m, x.want); t.Failed() {
			t.Fatal(x.name)
		}
	}
}

// TestTimeWhereFull: so it does where another block goes.
func TestTimeWhereFull(t *testing.T) {
	m := newMQ(t, 2, 2, 2, 2)
	run(t, m, "1 1 2")
	checkAdd(t, m, 3, 2)
	checkQueues(t, m, "3|1")
	checkAdd(t, m, 4, 3)
	checkQueues(t, m, "1 4|")
	m = newMQ(t, 2, 2, 3, 3)
	run(t, m, "1 1 2")
	checkAdd(t, m, 3, 2)
	checkAdd(t, m, 4, 3)
	checkQueues(t, m, "4|1")
	checkAdd(t, m, 2, 4)
	checkQueues(t, m, "1|2")
}

// TestNoTime: it doesn't go on by what isn't used or added.
func TestNoTime(t *testing.T) {
	for _, x := range []struct {
		name string
		do   func(m *mq.MQ)
	}{
		{"use of what isn't there", func(m *mq.MQ) { checkUse(t, m, 30, false) }},
		{"use of a ghost", func(m *mq.MQ) { checkUse(t, m, 6, false) }},
		{"use of no block", func(m *mq.MQ) { checkUse(t, m, 64, false) }},
		{"add of no block", func(m *mq.MQ) { checkNoAdd(t, m, -1, api.ErrRange) }},
		{"remove", func(m *mq.MQ) { m.Remove(5) }},
		{"remove of what isn't there", func(m *mq.MQ) { checkRemove(t, m, 30, false) }},
		{"remove of a ghost", func(m *mq.MQ) { checkRemove(t, m, 6, false) }},
		{"asking", func(m *mq.MQ) { ask(m) }},
	} {
		m := newMQ(t, 3, 2, 5, 2)
		run(t, m, "1 1 6 5")
		checkAdd(t, m, 7, 6)
		run(t, m, "-7 1")
		pass(t, m, 5)
		checkQueues(t, m, "5|1")
		for range 5 {
			x.do(m)
		}
		m.Remove(5)
		if checkQueues(t, m, "|1"); t.Failed() {
			t.Fatal(x.name)
		}
		pass(t, m, 1)
		if checkQueues(t, m, "1|"); t.Failed() {
			t.Fatal(x.name)
		}
	}
}

// ask asks all that can be asked, of each block.
func ask(m *mq.MQ) {
	for b := range blocks {
		m.Has(b)
		m.Often(b)
		m.Queue(b)
	}
	m.All()
	m.Ghosts()
	m.Len()
}

// twoAtOnce is one of three queues and a lifetime of 4, in whose second queue blocks 2 and 1 stand, which both expire in a time of 4; there is room for one more.
func twoAtOnce(t *testing.T) *mq.MQ {
	t.Helper()
	m := newMQ(t, 3, 3, 4, 2)
	// Block 2 is in the third queue at 4, and goes down at 9, when 1 is used for the second time.
	run(t, m, "2 2 2 2")
	pass(t, m, 3)
	run(t, m, "1 1")
	checkQueues(t, m, "|2 1|")
	return m
}

// TestOneByOne: of one queue one goes down at a time, also where more expired; what is no use makes none go down.
func TestOneByOne(t *testing.T) {
	m := twoAtOnce(t)
	pass(t, m, 4)
	checkQueues(t, m, "|2 1|")
	pass(t, m, 1)
	checkQueues(t, m, "1|2|")
	checkUse(t, m, clock, false)
	checkRemove(t, m, clock, false)
	checkNoAdd(t, m, 64, api.ErrRange)
	ask(m)
	checkQueues(t, m, "1|2|")
	pass(t, m, 1)
	checkQueues(t, m, "2 1||")
}

// TestRemoveAgesNone: be it that one expired.
func TestRemoveAgesNone(t *testing.T) {
	m := twoAtOnce(t)
	pass(t, m, 5)
	checkRemove(t, m, 1, true)
	checkQueues(t, m, "|2|")
	pass(t, m, 1)
	checkQueues(t, m, "2||")
}

// TestPlacedThenAged: the block that is added is placed ahead of the others' ageing.
func TestPlacedThenAged(t *testing.T) {
	m := twoAtOnce(t)
	pass(t, m, 3)
	run(t, m, "30")
	checkAdd(t, m, 31, 30)
	checkQueues(t, m, "1 31|2|")
	checkUse(t, m, 1, true)
	checkQueues(t, m, "2 31|1|")
}

// TestGoneThenAged: so does the victim go ahead of it.
func TestGoneThenAged(t *testing.T) {
	m := twoAtOnce(t)
	pass(t, m, 2)
	run(t, m, "30 30")
	checkQueues(t, m, "|30 2 1|")
	checkAdd(t, m, 9, 1)
	checkQueues(t, m, "2 9|30|")
}

// TestEachQueueAges: at one time blocks of several queues go down, each to the one below.
func TestEachQueueAges(t *testing.T) {
	m := newMQ(t, 3, 4, 4, 0)
	// Block 2 is in the last queue at 8, and goes down at 13, when 1 is used for the second time.
	run(t, m, "2 2 2 2 2 2 2 2")
	pass(t, m, 3)
	run(t, m, "1 1")
	for range 4 {
		checkQueues(t, m, "|1|2|")
		pass(t, m, 1)
	}
	checkQueues(t, m, "|1|2|")
	pass(t, m, 1)
	checkQueues(t, m, "1|2||")
	pass(t, m, 4)
	checkQueues(t, m, "1|2||")
	pass(t, m, 1)
	checkQueues(t, m, "2 1|||")
}

// TestDownIsFirst: a block that goes down is ahead of those that came there ahead of it, and behind those that come then.
func TestDownIsFirst(t *testing.T) {
	m := newMQ(t, 5, 2, 3, 0)
	run(t, m, "1 1 2 3 4")
	checkQueues(t, m, "4 3 2|1")
	run(t, m, "5")
	checkQueues(t, m, "1 5 4 3 2|")
	checkAdd(t, m, 6, 2)
	checkQueues(t, m, "6 1 5 4 3|")
}
