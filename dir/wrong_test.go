package dir_test

import (
	"math"
	"testing"

	"gradine/api"
	"gradine/dir"
)

// wrongNumbers are those of nothing, where there are n from 0 on.
func wrongNumbers(n int) []int {
	return []int{-1, -2, -n, -n - 1, -64, n, n + 1, 2 * n, 64, 65, 1 << 8, 1 << 32, 1<<32 + 1, math.MaxInt, math.MinInt}
}

// checkRefused tells where anything is answered of a pair that can't be, or changes what is shared.
func checkRefused(t *testing.T, d *dir.Dir, p pair, shared pairs) {
	t.Helper()
	checkAdd(t, d, p, api.ErrRange)
	checkRemove(t, d, p, false)
	if d.Has(p.client, p.block) {
		t.Errorf("Has(%d, %d)", p.client, p.block)
	}
	checkDir(t, d, shared)
}

// shapes are numbers of clients and of blocks, few and many.
func shapes() [][2]int {
	return [][2]int{{1, 1}, {1, 32}, {2, 5}, {3, 31}, {4, 1}, {4, 32}}
}

// TestNoSuchClient: nothing is answered, and nothing changed, whether somebody shares something or nobody does.
func TestNoSuchClient(t *testing.T) {
	for _, s := range shapes() {
		for _, shared := range []pairs{{}, allPairs(s[0], s[1])} {
			d := holding(t, s[0], s[1], shared)
			for _, c := range wrongNumbers(s[0]) {
				for _, b := range []int{0, s[1] - 1, s[1], -1} {
					checkRefused(t, d, pair{c, b}, shared)
				}
				checkForget(t, d, c, 0)
				if l := d.Of(c); len(l) != 0 {
					t.Errorf("Of(%d): %v", c, l)
				}
				checkDir(t, d, shared)
			}
		}
	}
}

// TestNoSuchBlock: nothing is answered, and nothing changed.
func TestNoSuchBlock(t *testing.T) {
	for _, s := range shapes() {
		for _, shared := range []pairs{{}, allPairs(s[0], s[1])} {
			d := holding(t, s[0], s[1], shared)
			for _, b := range wrongNumbers(s[1]) {
				for c := range s[0] {
					checkRefused(t, d, pair{c, b}, shared)
				}
				if l := d.Sharers(b); len(l) != 0 {
					t.Errorf("Sharers(%d): %v", b, l)
				}
				checkDir(t, d, shared)
			}
		}
	}
}

// TestNil: of no directory nothing is told, and nothing done.
func TestNil(t *testing.T) {
	var d *dir.Dir
	for _, c := range append(wrongNumbers(mostClients), 0, 1, 2, 3) {
		for _, b := range append(wrongNumbers(mostBlocks), 0, 1, 5, 31) {
			checkAdd(t, d, pair{c, b}, api.ErrNil)
			checkRemove(t, d, pair{c, b}, false)
		}
		checkForget(t, d, c, 0)
	}
	checkDir(t, d, nil)
}
