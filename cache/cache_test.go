package cache_test

import (
	"math"
	"slices"
	"strconv"
	"strings"
	"testing"

	"gradine/api"
	"gradine/cache"
)

const (
	tiers = 3
	size  = 2 // of the tests' blocks: a block's bytes are its number, of two digits, where nothing else is told
)

// beyond are numbers that aren't from least to most: those next to it, and those that would wrap round.
func beyond(least, most int) []int {
	return []int{least - 1, least - 2, least - 64, most + 1, most + 2, most + 1<<8, 1 << 32, 1<<32 + least, 1<<32 + most, math.MaxInt, math.MinInt}
}

// noBlocks are numbers of no block of so many, some of which an order might hold.
func noBlocks(blocks int) []int {
	return append(beyond(0, blocks-1), 32, 40, 63, 64)
}

// anyLevels are numbers of levels, and of none.
func anyLevels() []int {
	return append(beyond(1, tiers), 1, 2, 3)
}

// plain is a configuration with LRU at all tiers, each of that capacity.
func plain(capacity int) api.Config {
	return api.Config{Clients: 1, Slots: 1, Blocks: 20, Size: size, Mode: api.MExclusive, Policy: [3]int{api.LRU, api.LRU, api.LRU},
		Cap: [3]int{capacity, capacity, capacity}, Queues: 1, Life: 1, Demote: 1}
}

// queued is plain with MQ at all tiers.
func queued(capacity, queues, life, ghost int) api.Config {
	c := plain(capacity)
	c.Policy = [3]int{api.MQ, api.MQ, api.MQ}
	c.Queues, c.Life, c.Ghost = queues, life, ghost
	return c
}

// leveled is plain with PUni.
func leveled(capacity int) api.Config {
	c := plain(capacity)
	c.Place = api.PUni
	return c
}

// parted is plain with PKarma, and the hints that a text says: "3+2:7 8+1:5o" is one from block 3 on, of 2 blocks, Often 7, and one from 8 on, of 1, Often 5, Loop.
func parted(t *testing.T, capacity int, text string) api.Config {
	t.Helper()
	c := plain(capacity)
	c.Place = api.PKarma
	for _, w := range strings.Fields(text) {
		w, loop := strings.CutSuffix(w, "o")
		blocks, often, _ := strings.Cut(w, ":")
		from, n, _ := strings.Cut(blocks, "+")
		c.Hints = append(c.Hints, api.Hint{From: number(t, from), Size: number(t, n), Often: number(t, often), Loop: loop})
	}
	return c
}

// number is what a text says.
func number(t *testing.T, s string) int {
	t.Helper()
	n, e := strconv.Atoi(s)
	if e != nil {
		t.Fatal(e)
	}
	return n
}

// numbersOf cuts a text at blanks.
func numbersOf(t *testing.T, s string) []int {
	t.Helper()
	var l []int
	for _, w := range strings.Fields(s) {
		l = append(l, number(t, w))
	}
	return l
}

// frameOf is what a text says: "7=xy" is block 7 with the bytes xy, "7" block 7 with the bytes 07.
func frameOf(t *testing.T, s string) api.Frame {
	t.Helper()
	block, data, is := strings.Cut(s, "=")
	n := number(t, block)
	if !is {
		data = strconv.Itoa(n/10%10) + strconv.Itoa(n%10)
	}
	return api.Frame{Block: n, Data: []byte(data)}
}

// tellFrame is a frame as a text, whatever its bytes are.
func tellFrame(f api.Frame) string {
	return strconv.Itoa(f.Block) + "=" + string(f.Data)
}

func newCache(t *testing.T, c api.Config, tier int) *cache.Cache {
	t.Helper()
	k, e := cache.New(c, tier)
	if k == nil || e != api.OK {
		t.Fatalf("New(%v, %d): %v %d", c, tier, k, int(e))
	}
	return k
}

// holding is newCache, of tier 1, with these blocks, put from the last one to the first.
func holding(t *testing.T, c api.Config, frames string) *cache.Cache {
	t.Helper()
	k := newCache(t, c, 1)
	for _, w := range slices.Backward(strings.Fields(frames)) {
		checkPut(t, k, w, "")
	}
	return k
}

// checkPut tells where a put at level 1 has another block go than want, with other bytes, or at all.
func checkPut(t *testing.T, k *cache.Cache, f, want string) {
	t.Helper()
	checkPutAt(t, k, f, 1, want)
}

func checkPutAt(t *testing.T, k *cache.Cache, f string, level int, want string) {
	t.Helper()
	var goes api.Frame
	if want != "" {
		goes = frameOf(t, want)
	}
	v, gone, e := k.Put(frameOf(t, f), level)
	if tellFrame(v) != tellFrame(goes) || gone != (want != "") || e != api.OK {
		t.Errorf("Put(%q, %d): %q %t %d, not %q", f, level, tellFrame(v), gone, int(e), want)
	}
}

// checkNoPut tells where a put answers another error, or anything beside it.
func checkNoPut(t *testing.T, k *cache.Cache, f api.Frame, level int, want api.Errno) {
	t.Helper()
	if v, gone, e := k.Put(f, level); v.Block != 0 || v.Data != nil || gone || e != want {
		t.Errorf("Put(%q, %d): %q %t %d, not %d", tellFrame(f), level, tellFrame(v), gone, int(e), int(want))
	}
}

// checkUse tells where a block that is there is used with other bytes.
func checkUse(t *testing.T, k *cache.Cache, f string) {
	t.Helper()
	want := frameOf(t, f)
	if b, is := k.Use(want.Block); string(b) != string(want.Data) || !is {
		t.Errorf("Use(%q): %q %t", f, b, is)
	}
}

func checkNoUse(t *testing.T, k *cache.Cache, block int) {
	t.Helper()
	if b, is := k.Use(block); b != nil || is {
		t.Errorf("Use(%d): %q %t", block, b, is)
	}
}

func checkSet(t *testing.T, k *cache.Cache, f api.Frame, want bool) {
	t.Helper()
	if k.Set(f) != want {
		t.Errorf("Set(%q): %t", tellFrame(f), !want)
	}
}

// checkDrop tells where a block that is there is dropped with other bytes.
func checkDrop(t *testing.T, k *cache.Cache, f string) {
	t.Helper()
	want := frameOf(t, f)
	if got, was := k.Drop(want.Block); tellFrame(got) != tellFrame(want) || !was {
		t.Errorf("Drop(%q): %q %t", f, tellFrame(got), was)
	}
}

func checkNoDrop(t *testing.T, k *cache.Cache, block int) {
	t.Helper()
	if f, was := k.Drop(block); f.Block != 0 || f.Data != nil || was {
		t.Errorf("Drop(%d): %q %t", block, tellFrame(f), was)
	}
}

// checkAll tells where the cache has others than these blocks, or in another order; of their bytes nothing can be told without using them.
func checkAll(t *testing.T, k *cache.Cache, blocks string) {
	t.Helper()
	checkBlocks(t, k, numbersOf(t, blocks))
}

func checkBlocks(t *testing.T, k *cache.Cache, want []int) {
	t.Helper()
	if got := k.All(); !slices.Equal(got, want) {
		t.Errorf("All: %v, not %v", got, want)
	}
	if k.Len() != len(want) {
		t.Errorf("Len: %d, of %v", k.Len(), want)
	}
	for b := -2; b < 70; b++ {
		if k.Has(b) != slices.Contains(want, b) {
			t.Errorf("Has(%d): %t, of %v", b, k.Has(b), want)
		}
	}
}

// checkEnd is checkAll, and has each block dropped with its bytes then.
func checkEnd(t *testing.T, k *cache.Cache, frames string) {
	t.Helper()
	var blocks []int
	for _, w := range strings.Fields(frames) {
		blocks = append(blocks, frameOf(t, w).Block)
	}
	checkBlocks(t, k, blocks)
	for _, w := range strings.Fields(frames) {
		checkDrop(t, k, w)
	}
	checkBlocks(t, k, nil)
}

// checkPlay tells where other blocks go than these, one by one, as blocks are put; "-" is none.
func checkPlay(t *testing.T, k *cache.Cache, level int, puts, goes string) {
	t.Helper()
	want := strings.Fields(goes)
	for i, w := range strings.Fields(puts) {
		checkPutAt(t, k, w, level, strings.TrimSuffix(want[i], "-"))
	}
}

// TestExample is the chapter's.
func TestExample(t *testing.T) {
	k := newCache(t, plain(1), 1)
	checkPut(t, k, "0", "")
	checkPut(t, k, "1", "0")
	checkEnd(t, k, "1")
}

// TestCapacity: a cache holds as many blocks as its own tier's capacity, whichever tier it is, by either policy, or a hint about all blocks.
func TestCapacity(t *testing.T) {
	for _, c := range []api.Config{plain(1), queued(1, 4, 9, 4), leveled(1), parted(t, 1, "0+20:1")} {
		for n := 1; n <= api.MaxCapacity; n++ {
			for tier := 1; tier <= tiers; tier++ {
				c.Cap = [3]int{1, 2, 1}
				c.Cap[tier-1] = n
				k := newCache(t, c, tier)
				checkAll(t, k, "")
				var want []int
				for b := range n {
					checkPutAt(t, k, strconv.Itoa(b), tier, "")
					want = append([]int{b}, want...)
					checkBlocks(t, k, want)
				}
				checkPutAt(t, k, "19", tier, "0")
				checkBlocks(t, k, append([]int{19}, want[:n-1]...))
			}
		}
	}
}

// TestPolicy: what goes is the policy's of the cache's own tier, in each mode, and with PUni as with PAll.
func TestPolicy(t *testing.T) {
	goes := map[int]string{api.LRU: "- - - 1", api.MQ: "- - - 2"}
	for _, mode := range []int{api.MInclusive, api.MExclusive, api.MNine} {
		for _, place := range []int{api.PAll, api.PUni} {
			for i := range 8 {
				c := queued(2, 2, 9, 2)
				c.Mode, c.Place, c.Policy = mode, place, [3]int{1 + i&1, 1 + i>>1&1, 1 + i>>2}
				if place == api.PUni && mode != api.MExclusive {
					continue
				}
				for tier := 1; tier <= tiers; tier++ {
					checkPlay(t, newCache(t, c, tier), tier, "1 1 2 3", goes[c.Policy[tier-1]])
				}
				if t.Failed() {
					t.Fatal(mode, place, c.Policy)
				}
			}
		}
	}
}

// TestShape: an MQ's queues, lifetime and ghosts are each the configuration's own.
func TestShape(t *testing.T) {
	for _, x := range []struct {
		capacity, queues, life, ghost int
		puts, goes                    string
	}{
		// one queue: the one that wasn't used longest; two: one that was used once; three: one that was used less than four times
		{2, 1, 9, 0, "1 1 2 3", "- - - 1"},
		{2, 2, 9, 0, "1 1 2 3", "- - - 2"},
		{2, 2, 99, 0, "1 1 1 1 2 2 3", "- - - - - - 1"},
		{2, 3, 99, 0, "1 1 1 1 2 2 3", "- - - - - - 2"},
		{2, 3, 99, 0, "1 1 1 1 1 1 1 1 2 2 2 2 3", "- - - - - - - - - - - - 1"},
		{2, 8, 99, 0, "1 1 1 1 1 1 1 1 2 2 2 2 3", "- - - - - - - - - - - - 2"},
		// what isn't used for a lifetime goes a queue down, the sooner, the shorter it is
		{3, 2, 1, 0, "1 1 2 3 4 5 6", "- - - - 2 3 1"},
		{3, 2, 9, 0, "1 1 2 3 4 5 6", "- - - - 2 3 4"},
		{3, 2, 3, 0, "1 1 2 3 4 5 6 7 8", "- - - - 2 3 4 5 1"},
		{3, 2, 100, 0, "1 1 2 3 4 5 6 7 8", "- - - - 2 3 4 5 6"},
		// a block that is a ghost as yet was used twice when it comes again
		{2, 2, 9, 0, "1 2 3 1 4 5", "- - 1 2 3 1"},
		{2, 2, 9, 1, "1 2 3 1 4 5", "- - 1 2 3 1"},
		{2, 2, 9, 2, "1 2 3 1 4 5", "- - 1 2 3 4"},
		{2, 2, 9, 16, "1 2 3 1 4 5", "- - 1 2 3 4"},
	} {
		for tier := 1; tier <= tiers; tier++ {
			c := queued(1, x.queues, x.life, x.ghost)
			c.Cap[tier-1] = x.capacity
			if checkPlay(t, newCache(t, c, tier), 0, x.puts, x.goes); t.Failed() {
				t.Fatal(x, tier)
			}
		}
	}
}

// TestParted: with PKarma each range has its part of the cache's own tier, whatever the policies are, and of a Loop the block that was used last goes.
func TestParted(t *testing.T) {
	for _, policy := range []int{api.LRU, api.MQ} {
		c := parted(t, 1, "0+6:6 10+5:9o 16+2:1")
		c.Policy, c.Queues, c.Life, c.Ghost = [3]int{policy, policy, policy}, 2, 9, 9
		c.Cap = [3]int{3, 4, 4}
		for tier, x := range []struct{ puts, goes, all string }{
			{"10 11 10 12 13", "- - - - 12", "13 10 11"},
			{"0 1 0 2 10 11 10 12", "- - - 1 - - - 10", "2 0 12 11"},
			{"2 3 2 4 5 2 0", "- - - - - - 3", "0 2 5 4"},
		} {
			k := newCache(t, c, tier+1)
			checkPlay(t, k, 0, x.puts, x.goes)
			if checkEnd(t, k, x.all); t.Failed() {
				t.Fatal(policy, tier+1)
			}
		}
	}
}

// TestPartsAreOfAllBlocks: which blocks are there hangs on Blocks, and hints are asked about those.
func TestPartsAreOfAllBlocks(t *testing.T) {
	c := parted(t, 2, "31+1:1o 0+1:3")
	c.Blocks = 32
	k := newCache(t, c, 1)
	checkPut(t, k, "31=zz", "")
	checkPut(t, k, "0", "")
	checkEnd(t, k, "31=zz 0")
}

// TestApart: what is in one cache is in no other one, be it of the same configuration and tier.
func TestApart(t *testing.T) {
	for _, c := range []api.Config{plain(2), queued(2, 2, 9, 2), leveled(2), parted(t, 2, "0+2:2 4+2:1")} {
		a, b, low := newCache(t, c, 1), newCache(t, c, 1), newCache(t, c, 2)
		checkPut(t, a, "1=aa", "")
		checkAll(t, b, "")
		checkNoUse(t, b, 1)
		checkNoDrop(t, low, 1)
		checkPut(t, b, "1=bb", "")
		checkPut(t, b, "0=cc", "")
		checkPutAt(t, low, "4=dd", 2, "")
		a.Clear()
		checkEnd(t, a, "")
		checkEnd(t, b, "0=cc 1=bb")
		checkEnd(t, low, "4=dd")
	}
}

// checkTakes tells where other blocks than these are taken at the level.
func checkTakes(t *testing.T, k *cache.Cache, level int, want []int) {
	t.Helper()
	for b := -2; b < 70; b++ {
		if k.Takes(b, level) != slices.Contains(want, b) {
			t.Errorf("Takes(%d, %d): %t, of %v", b, level, k.Takes(b, level), want)
		}
	}
	for _, b := range beyond(0, 31) {
		if k.Takes(b, level) {
			t.Errorf("Takes(%d, %d)", b, level)
		}
	}
}

// TestTakes: with PAll any block, whatever its level is; with PUni one whose level is the tier; with PKarma one whose range has a part, whatever its level is.
func TestTakes(t *testing.T) {
	for _, blocks := range []int{1, 7, 32} {
		var all []int
		for b := range blocks {
			all = append(all, b)
		}
		for _, c := range []api.Config{plain(2), queued(2, 2, 9, 2), leveled(2)} {
			c.Blocks = blocks
			for tier := 1; tier <= tiers; tier++ {
				k := newCache(t, c, tier)
				for _, level := range anyLevels() {
					if c.Place == api.PAll || level == tier {
						checkTakes(t, k, level, all)
					} else {
						checkTakes(t, k, level, nil)
					}
				}
			}
		}
	}
}

func TestTakesOfParts(t *testing.T) {
	for _, x := range []struct {
		hints string
		caps  [3]int
		takes [tiers]string // by the tier
	}{
		{"", [3]int{16, 16, 16}, [3]string{}},
		{"0+1:1", [3]int{1, 1, 1}, [3]string{"0"}},
		{"0+2:0o", [3]int{1, 1, 1}, [3]string{"0 1", "0 1"}},
		{"0+2:1 4+3:9o 10+1:9", [3]int{1, 2, 1}, [3]string{"10", "4 5 6", "4 5 6"}},
		{"10+1:9 0+2:1 4+3:9", [3]int{2, 2, 1}, [3]string{"4 5 6 10", "4 5 6", "0 1"}},
		{"0+8:8", [3]int{1, 2, 3}, [3]string{"0 1 2 3 4 5 6 7", "0 1 2 3 4 5 6 7", "0 1 2 3 4 5 6 7"}},
	} {
		c := parted(t, 1, x.hints)
		c.Blocks, c.Cap = 11, x.caps
		for tier := 1; tier <= tiers; tier++ {
			k, want := newCache(t, c, tier), numbersOf(t, x.takes[tier-1])
			for _, level := range anyLevels() {
				checkTakes(t, k, level, want)
			}
			for b := range c.Blocks {
				if _, _, e := k.Put(frameOf(t, strconv.Itoa(b)), 4-tier); (e == api.OK) != slices.Contains(want, b) {
					t.Errorf("%q, %d: Put of %d: %d", x.hints, tier, b, int(e))
				}
			}
			checkTakes(t, k, 0, want)
		}
	}
}
