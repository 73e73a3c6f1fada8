package mq_test

import (
	"testing"

	"gradine/api"
	"gradine/mq"
)

// some are MQs that are empty, full, and neither, with ghosts and without, with their queues and ghosts.
func some(t *testing.T) map[*mq.MQ][2]string {
	t.Helper()
	empty, full, one, other := newMQ(t, 2, 3, 9, 2), newMQ(t, 3, 3, 9, 2), newMQ(t, 3, 2, 9, 2), newMQ(t, 1, 8, 9, 0)
	run(t, full, "5 5 63 0")
	checkAdd(t, full, 1, 63)
	run(t, one, "5 63 0")
	checkAdd(t, one, 1, 5)
	checkAdd(t, one, 5, 63)
	run(t, one, "-0")
	run(t, other, "0")
	return map[*mq.MQ][2]string{
		empty: {"||", ""},
		full:  {"1 0|5|", "63"},
		one:   {"1|5", "63"},
		other: {"0|||||||", ""},
	}
}

// TestNoSuchBlock: nothing is answered, and nothing changed.
func TestNoSuchBlock(t *testing.T) {
	for m, want := range some(t) {
		for _, b := range noBlocks() {
			checkNoAdd(t, m, b, api.ErrRange)
			checkUse(t, m, b, false)
			checkRemove(t, m, b, false)
			checkOften(t, m, b, 0)
			if m.Has(b) {
				t.Errorf("Has(%d)", b)
			}
			checkQueues(t, m, want[0])
			checkGhosts(t, m, want[1])
		}
	}
}

// TestNotThere: what isn't there isn't used, and not removed; it isn't there for having been asked for.
func TestNotThere(t *testing.T) {
	for m, want := range some(t) {
		for _, b := range []int{2, 3, 4, 40, 62, 63} {
			often := m.Often(b)
			for range 2 {
				checkUse(t, m, b, false)
				checkRemove(t, m, b, false)
				checkOften(t, m, b, often)
			}
			checkQueues(t, m, want[0])
			checkGhosts(t, m, want[1])
		}
	}
}

// TestNeverThere: what never was there, or went without a ghost, was never used.
func TestNeverThere(t *testing.T) {
	for m := range some(t) {
		for b := range blocks {
			if !m.Has(b) && b != 63 {
				checkOften(t, m, b, 0)
			}
		}
	}
}

// TestNil: of no MQ nothing is told, and nothing done.
func TestNil(t *testing.T) {
	var m *mq.MQ
	for _, b := range append(noBlocks(), 0, 1, 5, maxQueues, most, 63) {
		checkNoAdd(t, m, b, api.ErrNil)
		checkUse(t, m, b, false)
		checkRemove(t, m, b, false)
		checkOften(t, m, b, 0)
		if m.Has(b) {
			t.Errorf("Has(%d)", b)
		}
		if l := m.Queue(b); len(l) != 0 {
			t.Errorf("Queue(%d): %v", b, l)
		}
	}
	checkQueues(t, m, "")
	checkGhosts(t, m, "")
}
