package mq_test

import (
	"math"
	"slices"
	"strconv"
	"strings"
	"testing"

	"gradine/api"
	"gradine/mq"
)

const (
	blocks    = 64
	most      = 16 // blocks of an MQ, and ghosts
	maxQueues = 8
	maxLife   = 100
	stays     = -1 // where none goes
)

// noBlocks are numbers of no block.
func noBlocks() []int {
	return []int{-1, -2, -63, -64, 64, 65, 104, 128, 1 << 8, 1 << 32, 1<<32 + 1, math.MaxInt, math.MinInt}
}

// numbersOf cuts a text at blanks.
func numbersOf(t *testing.T, s string) []int {
	t.Helper()
	var l []int
	for _, w := range strings.Fields(s) {
		n, e := strconv.Atoi(w)
		if e != nil {
			t.Fatal(e)
		}
		l = append(l, n)
	}
	return l
}

// newMQ is one of capacity, queues, lifetime and ghosts.
func newMQ(t *testing.T, capacity, queues, life, ghost int) *mq.MQ {
	t.Helper()
	m, e := mq.New(mq.Shape{Capacity: capacity, Queues: queues, Life: life, Ghost: ghost})
	if m == nil || e != api.OK {
		t.Fatalf("New(%d %d %d %d): %v %d", capacity, queues, life, ghost, m, int(e))
	}
	return m
}

// run does what a text says, of blocks that no other one goes for: "1 2 2 -2" adds 1 and 2, uses 2 and removes it.
func run(t *testing.T, m *mq.MQ, s string) {
	t.Helper()
	for _, w := range strings.Fields(s) {
		n, e := strconv.Atoi(strings.TrimPrefix(w, "-"))
		switch {
		case e != nil:
			t.Fatal(e)
		case strings.HasPrefix(w, "-"):
			checkRemove(t, m, n, true)
		case m.Has(n):
			checkUse(t, m, n, true)
		default:
			checkAdd(t, m, n, stays)
		}
	}
}

// checkAdd tells where Add has another block go than want.
func checkAdd(t *testing.T, m *mq.MQ, block, want int) {
	t.Helper()
	if v, gone, e := m.Add(block); v != max(want, 0) || gone != (want != stays) || e != api.OK {
		t.Errorf("Add(%d): %d %v %d, not %d", block, v, gone, int(e), want)
	}
}

// checkNoAdd tells where Add answers another error, or anything beside it.
func checkNoAdd(t *testing.T, m *mq.MQ, block int, want api.Errno) {
	t.Helper()
	if v, gone, e := m.Add(block); v != 0 || gone || e != want {
		t.Errorf("Add(%d): %d %v %d, not %d", block, v, gone, int(e), int(want))
	}
}

func checkUse(t *testing.T, m *mq.MQ, block int, want bool) {
	t.Helper()
	if m.Use(block) != want {
		t.Errorf("Use(%d): %v", block, !want)
	}
}

func checkRemove(t *testing.T, m *mq.MQ, block int, want bool) {
	t.Helper()
	if m.Remove(block) != want {
		t.Errorf("Remove(%d): %v", block, !want)
	}
}

func checkOften(t *testing.T, m *mq.MQ, block, want int) {
	t.Helper()
	if got := m.Often(block); got != want {
		t.Errorf("Often(%d): %d, not %d", block, got, want)
	}
}

// checkQueues tells where the queues, from queue 0 up, or what is told of their blocks, are otherwise than want: "4 1|2|" has two blocks in queue 0, one in queue 1, none in queue 2.
func checkQueues(t *testing.T, m *mq.MQ, want string) {
	t.Helper()
	var all []int
	for i, s := range strings.Split(want, "|") {
		q := numbersOf(t, s)
		if got := m.Queue(i); !slices.Equal(got, q) {
			t.Errorf("Queue(%d): %v, of %q", i, got, want)
		}
		all = slices.Concat(q, all)
	}
	if got := m.All(); !slices.Equal(got, all) {
		t.Errorf("All: %v, not %v", got, all)
	}
	if m.Len() != len(all) {
		t.Errorf("Len: %d, of %v", m.Len(), all)
	}
	for b := range blocks {
		if m.Has(b) != slices.Contains(all, b) {
			t.Errorf("Has(%d): %v, of %v", b, m.Has(b), all)
		}
	}
}

func checkGhosts(t *testing.T, m *mq.MQ, want string) {
	t.Helper()
	if got := m.Ghosts(); !slices.Equal(got, numbersOf(t, want)) {
		t.Errorf("Ghosts: %v, not %q", got, want)
	}
}

// halvings is how often n can be halved till it is 1.
func halvings(n int) int {
	k := 0
	for ; n > 1; n /= 2 {
		k++
	}
	return k
}

// numberText is a number as a text.
func numberText(n int) string {
	return strconv.Itoa(n)
}

// bars are those between so many queues.
func bars(queues int) string {
	return strings.Repeat("|", queues-1)
}

// TestNew: each number within its bounds, to the last, makes an empty one, none beyond them does.
func TestNew(t *testing.T) {
	far := []int{17, 64, 101, 1 << 8, 1 << 32, 1<<32 + 1, math.MaxInt, -1, -2, -16, math.MinInt}
	for _, x := range []struct {
		name      string
		low, high int
		put       func(s *mq.Shape, n int)
	}{
		{"Capacity", 1, most, func(s *mq.Shape, n int) { s.Capacity = n }},
		{"Queues", 1, maxQueues, func(s *mq.Shape, n int) { s.Queues = n }},
		{"Life", 1, maxLife, func(s *mq.Shape, n int) { s.Life = n }},
		{"Ghost", 0, most, func(s *mq.Shape, n int) { s.Ghost = n }},
	} {
		tries := append([]int{x.low - 1, x.high + 1}, far...)
		for n := x.low; n <= x.high; n++ {
			tries = append(tries, n)
		}
		for _, n := range tries {
			s := mq.Shape{Capacity: 2, Queues: 2, Life: 9, Ghost: 2}
			x.put(&s, n)
			want := api.OK
			if n < x.low || n > x.high {
				want = api.ErrArg
			}
			m, e := mq.New(s)
			if e != want || (m != nil) != (want == api.OK) {
				t.Errorf("%s %d: %v %d, not %d", x.name, n, m, int(e), int(want))
			}
			if m != nil {
				checkQueues(t, m, bars(s.Queues))
				checkGhosts(t, m, "")
			}
		}
	}
}

// TestNewWhole: all least numbers are right, all greatest ones are, and none at all are not.
func TestNewWhole(t *testing.T) {
	newMQ(t, 1, 1, 1, 0)
	newMQ(t, most, maxQueues, maxLife, most)
	for _, s := range []mq.Shape{{}, {Ghost: 1}, {Capacity: 1}, {Capacity: 1, Queues: 1}, {Queues: 1, Life: 1}, {Capacity: 1, Life: 1}} {
		if m, e := mq.New(s); m != nil || e != api.ErrArg {
			t.Errorf("%v: %v %d", s, m, int(e))
		}
	}
}

// TestExample is the chapter's.
func TestExample(t *testing.T) {
	m := newMQ(t, 2, 2, 9, 0)
	checkAdd(t, m, 1, stays)
	checkUse(t, m, 1, true)
	checkAdd(t, m, 2, stays)
	checkAdd(t, m, 3, 2)
	checkQueues(t, m, "3|1")
}

// TestPlace: a block stands in the queue that its uses tell, by Use as by Add, up to the last one.
func TestPlace(t *testing.T) {
	for queues := 1; queues <= maxQueues; queues++ {
		for _, b := range []int{0, 5, 63} {
			used, added := newMQ(t, 3, queues, 1, 3), newMQ(t, 3, queues, 1, 3)
			checkAdd(t, used, b, stays)
			for n := 1; n < 600; n++ {
				checkAdd(t, added, b, stays)
				q := min(halvings(n), queues-1)
				want := strings.Repeat("|", q) + numberText(b) + bars(queues-q)
				checkQueues(t, used, want)
				checkQueues(t, added, want)
				checkOften(t, used, b, n)
				checkOften(t, added, b, n)
				checkUse(t, used, b, true)
			}
		}
	}
}

// TestFirst: from each place of a queue, a block that is used, or added again, is first, be it in this queue or the next one.
func TestFirst(t *testing.T) {
	for _, add := range []bool{false, true} {
		for _, x := range []struct {
			queues, block int
			run, want     string
		}{
			{1, 1, "1 2 3", "1 3 2"},
			{1, 2, "1 2 3", "2 3 1"},
			{1, 3, "1 2 3", "3 2 1"},
			{2, 1, "1 2 3", "3 2|1"},
			{2, 2, "1 2 3", "3 1|2"},
			{2, 3, "1 2 3", "2 1|3"},
			{2, 1, "1 1 2 2 3 3", "|1 3 2"},
			{2, 2, "1 1 2 2 3", "3|2 1"},
			{3, 1, "1 1 2 2 3 3", "|1 3 2|"},
			{3, 1, "1 1 1 2 2 3 3 3 3", "|2|1 3"},
			{3, 2, "1 1 1 2 2 3 3 3 3", "|2 1|3"},
		} {
			m := newMQ(t, 3, x.queues, maxLife, 0)
			run(t, m, x.run)
			n := m.Often(x.block)
			if add {
				checkAdd(t, m, x.block, stays)
			} else {
				checkUse(t, m, x.block, true)
			}
			checkQueues(t, m, x.want)
			checkOften(t, m, x.block, n+1)
		}
	}
}

// TestVictim: the last one of the lowest queue that isn't empty goes, whatever was used last.
func TestVictim(t *testing.T) {
	for _, x := range []struct {
		queues, victim int
		run, want      string
	}{
		{1, 1, "1 2 3", "9 3 2"},
		{1, 2, "1 2 3 1", "9 1 3"},
		{3, 1, "1 2 3", "9 3 2||"},
		{3, 2, "1 1 2 3 3", "9|3 1|"},
		{3, 3, "1 1 2 2 3", "9|2 1|"},
		{3, 1, "1 1 2 2 3 3", "9|3 2|"},
		{3, 3, "3 3 1 1 2 2", "9|2 1|"},
		{3, 2, "1 1 1 1 2 2 3 3", "9|3|1"},
		{3, 2, "2 2 2 2 1 1 1 1 3 3 3 3", "9||3 1"},
		{3, 0, "1 2 0 1 2", "9|2 1|"},
		{3, 63, "63 1 2", "9 2 1||"},
	} {
		m := newMQ(t, 3, x.queues, maxLife, 2)
		run(t, m, x.run)
		n := m.Often(x.victim)
		checkAdd(t, m, 9, x.victim)
		checkQueues(t, m, x.want)
		checkGhosts(t, m, numberText(x.victim))
		checkOften(t, m, x.victim, n)
		checkOften(t, m, 9, 1)
	}
}

// TestRoom: of each capacity, one goes just where it is full, and none for a block that is there.
func TestRoom(t *testing.T) {
	for capacity := 1; capacity <= most; capacity++ {
		m := newMQ(t, capacity, 1, 1, 0)
		for b := range blocks {
			want := stays
			if b >= capacity {
				want = b - capacity
			}
			checkAdd(t, m, b, want)
			checkAdd(t, m, b, stays)
			if m.Len() != min(b+1, capacity) {
				t.Errorf("capacity %d: %d blocks behind %d", capacity, m.Len(), b)
			}
		}
	}
}

// TestRemove: from each queue a block goes, once, and is no ghost; it comes again as if it had never been there.
func TestRemove(t *testing.T) {
	for _, x := range []struct {
		block     int
		run, want string
	}{
		{1, "1 2 3", "3 2||"},
		{2, "1 2 3", "3 1||"},
		{3, "1 2 3", "2 1||"},
		{0, "0 1 1 2 2", "|2 1|"},
		{1, "0 1 1 2 2", "0|2|"},
		{2, "0 1 1 2 2", "0|1|"},
		{63, "0 1 1 63 63 63 63", "0|1|"},
	} {
		m := newMQ(t, 3, 3, maxLife, 2)
		run(t, m, x.run)
		checkRemove(t, m, x.block, true)
		checkQueues(t, m, x.want)
		checkOften(t, m, x.block, 0)
		checkRemove(t, m, x.block, false)
		checkUse(t, m, x.block, false)
		checkQueues(t, m, x.want)
		checkGhosts(t, m, "")
		checkAdd(t, m, x.block, stays)
		checkOften(t, m, x.block, 1)
		if q := m.Queue(0); len(q) == 0 || q[0] != x.block {
			t.Errorf("%v, behind Add(%d)", q, x.block)
		}
	}
}

// TestRemoveAll: of an emptied one nothing is there; there is room for as many as ahead of that.
func TestRemoveAll(t *testing.T) {
	m := newMQ(t, 3, 2, maxLife, 2)
	run(t, m, "1 1 2 3 3 -2 -3 -1")
	checkQueues(t, m, "|")
	run(t, m, "3 2 4")
	checkQueues(t, m, "4 2 3|")
	checkAdd(t, m, 1, 3)
}

// TestQueue: of a number that no queue has nothing is told, be there ghosts or none.
func TestQueue(t *testing.T) {
	for queues := 1; queues <= maxQueues; queues++ {
		m := newMQ(t, 2, queues, maxLife, 2)
		run(t, m, "1 2")
		checkAdd(t, m, 3, 1)
		checkAdd(t, m, 4, 2)
		for _, i := range append(noBlocks(), queues, queues+1, 7+1, 9, 10, 39, 40) {
			if got := m.Queue(i); len(got) != 0 {
				t.Errorf("%d queues: Queue(%d): %v", queues, i, got)
			}
		}
		checkQueues(t, m, "4 3"+bars(queues))
		checkGhosts(t, m, "2 1")
	}
}

// TestApart: what is in one MQ is in no other one, and no ghost there.
func TestApart(t *testing.T) {
	a, b := newMQ(t, 1, 2, 9, 2), newMQ(t, 2, 2, 9, 2)
	run(t, a, "1 1")
	checkAdd(t, a, 2, 1)
	checkQueues(t, b, "|")
	checkGhosts(t, b, "")
	checkOften(t, b, 1, 0)
	run(t, b, "1 3")
	checkOften(t, b, 1, 1)
	checkOften(t, a, 1, 2)
	checkQueues(t, a, "2|")
	checkQueues(t, b, "3 1|")
	checkGhosts(t, a, "1")
}
