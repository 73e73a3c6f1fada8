package dir_test

import (
	"math"
	"slices"
	"strconv"
	"strings"
	"testing"

	"gradine/api"
	"gradine/dir"
)

const (
	mostClients = 4
	mostBlocks  = 32
)

// pair is a client and a block that it shares.
type pair struct{ client, block int }

// pairs are those of a directory; each one's value is true.
type pairs map[pair]bool

// pairsOf are those of a text: each a client's number, a dash and a block's number, with blanks between.
func pairsOf(t *testing.T, s string) pairs {
	t.Helper()
	l := pairs{}
	for _, w := range strings.Fields(s) {
		l[pairOf(t, w)] = true
	}
	return l
}

func pairOf(t *testing.T, s string) pair {
	t.Helper()
	c, b, is := strings.Cut(s, "-")
	client, e := strconv.Atoi(c)
	block, f := strconv.Atoi(b)
	if !is || e != nil || f != nil {
		t.Fatalf("%q is no pair", s)
	}
	return pair{client, block}
}

// without are the pairs but one of them.
func (l pairs) without(p pair) pairs {
	rest := pairs{}
	for q := range l {
		if q != p {
			rest[q] = true
		}
	}
	return rest
}

// allPairs are those of each client with each block.
func allPairs(clients, blocks int) pairs {
	l := pairs{}
	for c := range clients {
		for b := range blocks {
			l[pair{c, b}] = true
		}
	}
	return l
}

// holding is a directory about so many clients and blocks, in which the blocks are shared so.
func holding(t *testing.T, clients, blocks int, l pairs) *dir.Dir {
	t.Helper()
	d := dir.New(clients, blocks)
	for p := range l {
		checkAdd(t, d, p, api.OK)
	}
	return d
}

func checkAdd(t *testing.T, d *dir.Dir, p pair, want api.Errno) {
	t.Helper()
	if e := d.Add(p.client, p.block); e != want {
		t.Errorf("Add(%d, %d): %d, not %d", p.client, p.block, int(e), int(want))
	}
}

func checkRemove(t *testing.T, d *dir.Dir, p pair, want bool) {
	t.Helper()
	if did := d.Remove(p.client, p.block); did != want {
		t.Errorf("Remove(%d, %d): %t", p.client, p.block, did)
	}
}

func checkForget(t *testing.T, d *dir.Dir, client, want int) {
	t.Helper()
	if n := d.Forget(client); n != want {
		t.Errorf("Forget(%d): %d, not %d", client, n, want)
	}
}

// checkDir tells where anything that can be asked of the directory is otherwise than that of these pairs.
func checkDir(t *testing.T, d *dir.Dir, want pairs) {
	t.Helper()
	sharers, of := map[int][]int{}, map[int][]int{}
	for c := -2; c < 7; c++ {
		for b := -2; b < 35; b++ {
			is := want[pair{c, b}]
			if d.Has(c, b) != is {
				t.Errorf("Has(%d, %d): %t", c, b, !is)
			}
			if is {
				sharers[b], of[c] = append(sharers[b], c), append(of[c], b)
			}
		}
	}
	for n := -2; n < 67; n++ {
		if l := d.Sharers(n); !slices.Equal(l, sharers[n]) {
			t.Errorf("Sharers(%d): %v, not %v", n, l, sharers[n])
		}
		if l := d.Of(n); !slices.Equal(l, of[n]) {
			t.Errorf("Of(%d): %v, not %v", n, l, of[n])
		}
	}
	if n := d.Len(); n != len(want) {
		t.Errorf("Len: %d, not %d", n, len(want))
	}
}

// checkText is checkDir, of pairs that are told as a text.
func checkText(t *testing.T, d *dir.Dir, want string) {
	t.Helper()
	checkDir(t, d, pairsOf(t, want))
}

// checkAbout tells where the directory, which is empty, lets others share than so many clients, or other blocks.
func checkAbout(t *testing.T, d *dir.Dir, clients, blocks int) {
	t.Helper()
	checkDir(t, d, nil)
	for c := -2; c < 7; c++ {
		for b := -2; b < 35; b++ {
			want := api.ErrRange
			if c >= 0 && c < clients && b >= 0 && b < blocks {
				want = api.OK
			}
			checkAdd(t, d, pair{c, b}, want)
		}
	}
	checkDir(t, d, allPairs(clients, blocks))
}

// TestNewOfEachShape: of each number of clients and of blocks there are so many, and no more.
func TestNewOfEachShape(t *testing.T) {
	for clients := 1; clients <= mostClients; clients++ {
		for blocks := 1; blocks <= mostBlocks; blocks++ {
			if checkAbout(t, dir.New(clients, blocks), clients, blocks); t.Failed() {
				t.Fatal(clients, blocks)
			}
		}
	}
}

// TestNewIsHeld: numbers beyond the bounds are the nearest one within.
func TestNewIsHeld(t *testing.T) {
	low := []int{0, -1, -2, -4, -32, math.MinInt}
	high := []int{33, 34, 36, 64, 1 << 8, 1 << 32, 1<<32 + 2, math.MaxInt}
	for _, n := range low {
		checkAbout(t, dir.New(n, 5), 1, 5)
		checkAbout(t, dir.New(3, n), 3, 1)
		checkAbout(t, dir.New(n, n), 1, 1)
	}
	for _, n := range high {
		checkAbout(t, dir.New(n, 5), mostClients, 5)
		checkAbout(t, dir.New(3, n), 3, mostBlocks)
		checkAbout(t, dir.New(n, n), mostClients, mostBlocks)
	}
	for n := 5; n <= mostBlocks; n++ {
		checkAbout(t, dir.New(n, n), mostClients, n)
	}
}

// TestExample is the chapter's.
func TestExample(t *testing.T) {
	d := dir.New(2, 6)
	checkAdd(t, d, pair{1, 5}, api.OK)
	checkAdd(t, d, pair{0, 5}, api.OK)
	if l := d.Sharers(5); !slices.Equal(l, []int{0, 1}) {
		t.Error(l)
	}
	checkText(t, d, "0-5 1-5")
}

// TestTale is one of each call, by hand.
func TestTale(t *testing.T) {
	d := dir.New(4, 32)
	for _, w := range strings.Fields("3-31 0-31 3-0 2-7 0-0 1-31 3-16") {
		checkAdd(t, d, pairOf(t, w), api.OK)
	}
	checkText(t, d, "0-0 0-31 1-31 2-7 3-0 3-16 3-31")
	checkAdd(t, d, pair{3, 16}, api.OK)
	checkText(t, d, "0-0 0-31 1-31 2-7 3-0 3-16 3-31")
	checkRemove(t, d, pair{0, 31}, true)
	checkRemove(t, d, pair{0, 31}, false)
	checkRemove(t, d, pair{1, 7}, false)
	checkText(t, d, "0-0 1-31 2-7 3-0 3-16 3-31")
	checkForget(t, d, 3, 3)
	checkForget(t, d, 3, 0)
	checkText(t, d, "0-0 1-31 2-7")
	checkAdd(t, d, pair{0, 31}, api.OK)
	checkAdd(t, d, pair{3, 31}, api.OK)
	checkText(t, d, "0-0 0-31 1-31 2-7 3-31")
	checkForget(t, d, 1, 1)
	checkForget(t, d, 0, 2)
	checkForget(t, d, 2, 1)
	checkForget(t, d, 3, 1)
	checkText(t, d, "")
}

// TestEachPairAlone: of an empty directory it is added, once or twice, and removed, once.
func TestEachPairAlone(t *testing.T) {
	for p := range allPairs(mostClients, mostBlocks) {
		d := dir.New(mostClients, mostBlocks)
		checkRemove(t, d, p, false)
		checkDir(t, d, nil)
		for range 2 {
			checkAdd(t, d, p, api.OK)
			checkDir(t, d, pairs{p: true})
		}
		checkRemove(t, d, p, true)
		checkDir(t, d, nil)
		checkRemove(t, d, p, false)
		checkDir(t, d, nil)
	}
}

// TestEachPairOfAll: of a directory in which everybody shares everything it is added once more, removed, once, and comes again.
func TestEachPairOfAll(t *testing.T) {
	all := allPairs(mostClients, mostBlocks)
	d := holding(t, mostClients, mostBlocks, all)
	for p := range all {
		rest := all.without(p)
		checkAdd(t, d, p, api.OK)
		checkDir(t, d, all)
		checkRemove(t, d, p, true)
		checkDir(t, d, rest)
		checkRemove(t, d, p, false)
		checkDir(t, d, rest)
		checkAdd(t, d, p, api.OK)
		checkDir(t, d, all)
	}
}

// TestForgetOfEachShape: a client that shares everything shares nothing then, the others what they shared; it may share again.
func TestForgetOfEachShape(t *testing.T) {
	for clients := 1; clients <= mostClients; clients++ {
		for blocks := 1; blocks <= mostBlocks; blocks++ {
			d, left := holding(t, clients, blocks, allPairs(clients, blocks)), allPairs(clients, blocks)
			for _, c := range []int{2, 0, 3, 1} {
				if c >= clients {
					continue
				}
				checkForget(t, d, c, blocks)
				for b := range blocks {
					left = left.without(pair{c, b})
				}
				checkDir(t, d, left)
				checkForget(t, d, c, 0)
				checkDir(t, d, left)
			}
			checkAdd(t, d, pair{clients - 1, blocks - 1}, api.OK)
			checkDir(t, d, pairs{pair{clients - 1, blocks - 1}: true})
		}
	}
}

// TestRising: whatever the order in which pairs are added.
func TestRising(t *testing.T) {
	orders := []string{"0 1 2 3", "3 2 1 0", "2 0 3 1", "1 3 0 2"}
	for _, clients := range orders {
		for _, blocks := range []string{"0 1 2 7 8 15 16 30 31", "31 30 16 15 8 7 2 1 0", "16 2 31 0 8 1 30 7 15"} {
			d, all := dir.New(mostClients, mostBlocks), pairs{}
			for _, b := range strings.Fields(blocks) {
				for _, c := range strings.Fields(clients) {
					p := pairOf(t, c+"-"+b)
					all[p] = true
					checkAdd(t, d, p, api.OK)
				}
			}
			checkDir(t, d, all)
		}
	}
}

// TestDirsAreApart: what is shared in one isn't in another one.
func TestDirsAreApart(t *testing.T) {
	a, b := holding(t, 3, 8, pairsOf(t, "0-1 2-1 2-7")), dir.New(3, 8)
	checkText(t, b, "")
	checkAdd(t, b, pair{1, 1}, api.OK)
	checkRemove(t, a, pair{0, 1}, true)
	checkRemove(t, b, pair{0, 1}, false)
	checkForget(t, b, 2, 0)
	checkText(t, a, "2-1 2-7")
	checkText(t, b, "1-1")
}
