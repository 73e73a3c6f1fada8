package dir_test

import (
	"slices"
	"testing"

	"gradine/api"
	"gradine/dir"
)

// spoil writes all over l and its spare room.
func spoil(l []int) {
	l = l[:cap(l)]
	for i := range l {
		l[i] = 77
	}
}

// asked is each list that the directory answers, twice over.
func asked(d *dir.Dir) [][]int {
	var all [][]int
	for range 2 {
		for c := range mostClients {
			all = append(all, d.Of(c))
		}
		for b := range mostBlocks {
			all = append(all, d.Sharers(b))
		}
	}
	return all
}

// somePairs are sets of them of which clients share few blocks, many, and all.
func somePairs(t *testing.T) []pairs {
	t.Helper()
	return []pairs{pairsOf(t, ""), pairsOf(t, "2-9"), pairsOf(t, "0-1 1-1 3-1 3-2 3-3 3-5 3-31"), allPairs(mostClients, mostBlocks)}
}

// TestWhatIsAnsweredIsNew: who changes it, spare room included, changes neither the directory nor another answer.
func TestWhatIsAnsweredIsNew(t *testing.T) {
	for _, shared := range somePairs(t) {
		d := holding(t, mostClients, mostBlocks, shared)
		first := asked(d)
		var were [][]int
		for _, l := range first {
			were = append(were, slices.Clone(l))
		}
		for i, l := range first {
			spoil(l)
			for k := i + 1; k < len(first); k++ {
				if !slices.Equal(first[k], were[k]) {
					t.Fatalf("%v is %v now", were[k], first[k])
				}
			}
		}
		checkDir(t, d, shared)
	}
}

// TestAnAnswerStays: what is done, or asked, behind it doesn't change it.
func TestAnAnswerStays(t *testing.T) {
	d := holding(t, 4, 8, pairsOf(t, "0-1 2-1 3-1 2-6 2-7"))
	sharers, of, none := d.Sharers(1), d.Of(2), d.Of(1)
	checkAdd(t, d, pair{1, 1}, api.OK)
	checkRemove(t, d, pair{3, 1}, true)
	checkForget(t, d, 2, 3)
	for _, l := range asked(d) {
		spoil(l)
	}
	if !slices.Equal(sharers, []int{0, 2, 3}) || !slices.Equal(of, []int{1, 6, 7}) || len(none) != 0 {
		t.Error(sharers, of, none)
	}
	checkText(t, d, "0-1 1-1")
}

// TestAskingChangesNothing: whatever is asked, however often.
func TestAskingChangesNothing(t *testing.T) {
	for _, shared := range somePairs(t) {
		d := holding(t, mostClients, mostBlocks, shared)
		for range 3 {
			checkDir(t, d, shared)
			for _, n := range wrongNumbers(mostBlocks) {
				d.Sharers(n)
				d.Of(n)
				d.Has(n, 1)
				d.Has(3, n)
			}
		}
		checkDir(t, d, shared)
	}
}
