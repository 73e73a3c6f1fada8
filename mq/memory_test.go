package mq_test

import (
	"slices"
	"testing"

	"gradine/mq"
)

// spoil writes all over l and its spare room.
func spoil(l []int) {
	l = l[:cap(l)]
	for i := range l {
		l[i] = 77
	}
}

// lists are all that is told of an MQ as lists.
func lists(m *mq.MQ) [][]int {
	l := [][]int{m.All(), m.Ghosts()}
	for i := range maxQueues {
		l = append(l, m.Queue(i))
	}
	return l
}

// TestWhatIsAnsweredIsNew: who changes it, spare room included, changes neither the MQ nor another answer.
func TestWhatIsAnsweredIsNew(t *testing.T) {
	many := newMQ(t, most, 4, maxLife, most)
	for b := range 2 * most {
		many.Add(b)
		many.Add(b / 2)
	}
	all := []*mq.MQ{many}
	for m := range some(t) {
		all = append(all, m)
	}
	for _, m := range all {
		want, got := lists(m), lists(m)
		for i := range got {
			spoil(got[i])
			for k, other := range lists(m) {
				if !slices.Equal(other, want[k]) {
					t.Errorf("list %d behind list %d: %v, not %v", k, i, other, want[k])
				}
				if k > i && !slices.Equal(got[k], want[k]) {
					t.Errorf("the answer %d behind list %d: %v, not %v", k, i, got[k], want[k])
				}
			}
		}
	}
}

// TestAnAnswerStays: what is done behind it doesn't change it.
func TestAnAnswerStays(t *testing.T) {
	m := newMQ(t, 3, 2, 3, 2)
	run(t, m, "1 2 3 3")
	checkAdd(t, m, 4, 1)
	got, want := lists(m), lists(m)
	checkAdd(t, m, 5, 2)
	checkUse(t, m, 5, true)
	checkAdd(t, m, 1, 4)
	checkRemove(t, m, 3, true)
	for _, l := range lists(m) {
		spoil(l)
	}
	for i := range got {
		if !slices.Equal(got[i], want[i]) {
			t.Errorf("list %d: %v, not %v", i, got[i], want[i])
		}
	}
}

// TestAskingChangesNothing: whatever is asked, however often; to have isn't to use.
func TestAskingChangesNothing(t *testing.T) {
	for m, want := range some(t) {
		for range 3 {
			ask(m)
			for _, b := range noBlocks() {
				m.Has(b)
				m.Often(b)
				m.Queue(b)
			}
			checkQueues(t, m, want[0])
			checkGhosts(t, m, want[1])
		}
	}
}
