package mq_test

import (
	"slices"
	"strings"
	"testing"
)

// TestGhosts: the one that went last is first, there are as many as there may be, and of those that are forgotten nothing is known.
func TestGhosts(t *testing.T) {
	for ghost := range most + 1 {
		m := newMQ(t, 1, 1, 1, ghost)
		checkAdd(t, m, 0, stays)
		var want []int
		for b := 1; b < blocks; b++ {
			checkAdd(t, m, b, b-1)
			want = append([]int{b - 1}, want...)
			want = want[:min(len(want), ghost)]
			if got := m.Ghosts(); !slices.Equal(got, want) {
				t.Errorf("%d ghosts: %v, not %v", ghost, got, want)
			}
			for other := range b {
				n := 0
				if slices.Contains(want, other) {
					n = 1
				}
				checkOften(t, m, other, n)
			}
		}
	}
}

// TestGhostComes: it was used once more than its ghost says, stands where that tells, and is no ghost any more.
func TestGhostComes(t *testing.T) {
	for n := 1; n < 40; n++ {
		m := newMQ(t, 2, 5, 1, 3)
		run(t, m, strings.Repeat("1 ", n))
		pass(t, m, 3*maxQueues)
		run(t, m, "2")
		checkAdd(t, m, 3, 1)
		checkGhosts(t, m, "1")
		checkOften(t, m, 1, n)
		checkRemove(t, m, 3, true)
		checkAdd(t, m, 1, stays)
		checkGhosts(t, m, "")
		checkOften(t, m, 1, n+1)
		if q := m.Queue(min(halvings(n+1), 4)); len(q) == 0 || q[0] != 1 {
			t.Errorf("used %d times: %v", n+1, q)
		}
	}
}

// TestGhostComesWhereFull: also where another one goes for it, which is the first of the ghosts.
func TestGhostComesWhereFull(t *testing.T) {
	m := newMQ(t, 1, 3, 9, 2)
	run(t, m, "1 1 1")
	checkAdd(t, m, 2, 1)
	checkQueues(t, m, "2||")
	checkAdd(t, m, 1, 2)
	checkQueues(t, m, "||1")
	checkOften(t, m, 1, 4)
	checkGhosts(t, m, "2")
	checkAdd(t, m, 2, 1)
	checkQueues(t, m, "|2|")
	checkOften(t, m, 2, 2)
	checkOften(t, m, 1, 4)
	checkGhosts(t, m, "1")
}

// TestGhostOfAnyPlace: from each place among the ghosts one comes, and the others stay as they are.
func TestGhostOfAnyPlace(t *testing.T) {
	for b, want := range map[int]string{1: "4 3 2", 2: "4 3 1", 3: "4 2 1", 4: "3 2 1"} {
		m := newMQ(t, 1, 2, 9, 5)
		run(t, m, "1")
		for _, next := range []int{2, 3, 4, 5} {
			checkAdd(t, m, next, next-1)
		}
		checkGhosts(t, m, "4 3 2 1")
		checkRemove(t, m, 5, true)
		checkAdd(t, m, b, stays)
		checkGhosts(t, m, want)
		checkOften(t, m, b, 2)
		checkQueues(t, m, "|"+numberText(b))
		checkAdd(t, m, 6, b)
		checkGhosts(t, m, numberText(b)+" "+want)
		checkOften(t, m, b, 2)
	}
}

// TestEldestGhostComes: where there are as many as may be the eldest is forgotten for the victim, ahead of being asked how often it was used.
func TestEldestGhostComes(t *testing.T) {
	for ghost := 1; ghost <= most; ghost++ {
		m := newMQ(t, 1, 4, 9, ghost)
		run(t, m, "0 0 0")
		for b := 1; b <= ghost; b++ {
			checkAdd(t, m, b, b-1)
		}
		checkOften(t, m, 0, 3)
		checkAdd(t, m, 0, ghost)
		checkOften(t, m, 0, 1)
		checkQueues(t, m, "0|||")
		if got := m.Ghosts(); len(got) != ghost || got[0] != ghost || got[ghost-1] != 1 {
			t.Errorf("%d ghosts: %v", ghost, got)
		}
	}
}

// TestYoungerGhostComes: any other one is known as yet, and leaves room behind it.
func TestYoungerGhostComes(t *testing.T) {
	m := newMQ(t, 1, 4, 9, 2)
	run(t, m, "1")
	checkAdd(t, m, 2, 1)
	checkUse(t, m, 2, true)
	checkAdd(t, m, 3, 2)
	checkGhosts(t, m, "2 1")
	checkAdd(t, m, 2, 3)
	checkOften(t, m, 2, 3)
	checkOften(t, m, 1, 0)
	checkGhosts(t, m, "3")
	checkAdd(t, m, 4, 2)
	checkGhosts(t, m, "2 3")
}

// TestNoGhosts: where there may be none each block that comes was used once.
func TestNoGhosts(t *testing.T) {
	m := newMQ(t, 1, 3, 9, 0)
	run(t, m, "1 1 1 1")
	checkAdd(t, m, 2, 1)
	checkGhosts(t, m, "")
	checkOften(t, m, 1, 0)
	checkAdd(t, m, 1, 2)
	checkOften(t, m, 1, 1)
	checkQueues(t, m, "1||")
}

// TestForgotten: who comes behind having been forgotten was used once.
func TestForgotten(t *testing.T) {
	m := newMQ(t, 1, 3, 9, 1)
	run(t, m, "1 1 1 1")
	checkAdd(t, m, 2, 1)
	checkOften(t, m, 1, 4)
	checkAdd(t, m, 3, 2)
	checkOften(t, m, 1, 0)
	checkGhosts(t, m, "2")
	checkRemove(t, m, 3, true)
	checkAdd(t, m, 1, stays)
	checkOften(t, m, 1, 1)
	checkQueues(t, m, "1||")
	checkGhosts(t, m, "2")
}

// TestGhostIsNotThere: a ghost isn't used, had or removed: it stays, as often used as it was.
func TestGhostIsNotThere(t *testing.T) {
	for _, b := range []int{0, 1, 63} {
		m := newMQ(t, 1, 2, 9, 2)
		run(t, m, strings.Repeat(numberText(b)+" ", 3))
		checkAdd(t, m, 7, b)
		for range 2 {
			checkRemove(t, m, b, false)
			checkUse(t, m, b, false)
			checkQueues(t, m, "7|")
			checkGhosts(t, m, numberText(b))
			checkOften(t, m, b, 3)
		}
	}
}

// TestGhostsStay: whatever is removed.
func TestGhostsStay(t *testing.T) {
	m := newMQ(t, 2, 2, 9, 3)
	run(t, m, "1 2")
	checkAdd(t, m, 3, 1)
	checkAdd(t, m, 4, 2)
	checkRemove(t, m, 3, true)
	checkRemove(t, m, 4, true)
	checkQueues(t, m, "|")
	checkGhosts(t, m, "2 1")
	checkOften(t, m, 1, 1)
	checkOften(t, m, 2, 1)
}
