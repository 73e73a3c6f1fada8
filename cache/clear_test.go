package cache_test

import (
	"math/rand"
	"testing"

	"gradine/api"
)

// TestClear: nothing is there any more, and there is room for as many blocks as ever.
func TestClear(t *testing.T) {
	for _, c := range kinds(t) {
		for _, s := range []string{"", "5", "8 1 9 0 5 4"} {
			k := holding(t, c, s)
			k.Clear()
			for b := range 10 {
				checkNoUse(t, k, b)
				checkNoDrop(t, k, b)
				checkSet(t, k, frameOf(t, "0=xx"), false)
			}
			checkAll(t, k, "")
			for _, f := range []string{"1=aa", "2=bb", "3=cc", "4=dd", "5=ee", "6=ff"} {
				checkPut(t, k, f, "")
			}
			checkEnd(t, k, "6=ff 5=ee 4=dd 3=cc 2=bb 1=aa")
			k.Clear()
			k.Clear()
			checkAll(t, k, "")
		}
	}
}

// TestClearForgets: an MQ's ghosts are forgotten, and how often a block was used.
func TestClearForgets(t *testing.T) {
	k := holding(t, queued(2, 2, 99, 4), "2 1 1 1")
	checkPut(t, k, "3", "2") // a ghost
	k.Clear()
	for _, f := range []string{"2", "1"} {
		checkPut(t, k, f, "")
	}
	checkPut(t, k, "4", "2")
	checkPut(t, k, "5", "1")
	checkEnd(t, k, "5 4")
}

// TestClearIsNew: whatever a cache has been through, behind Clear it answers as a new one does; what it takes stays.
func TestClearIsNew(t *testing.T) {
	for seed := range int64(60) {
		r := rand.New(rand.NewSource(seed))
		c := anyConfig(t, r)
		tier := 1 + int(seed)%tiers
		used := newCache(t, c, tier)
		for range 200 {
			do(used, anyAct(r, c, tier))
		}
		used.Clear()
		fresh := newCache(t, c, tier)
		for i := range 200 {
			a := anyAct(r, c, tier)
			if got, want := do(used, a), do(fresh, a); got != want {
				t.Fatalf("seed %d, %d, %v: %v, not %v", seed, i, a, got, want)
			}
			checkBlocks(t, used, fresh.All())
			for b := range c.Blocks {
				if used.Takes(b, a.level) != fresh.Takes(b, a.level) {
					t.Errorf("Takes(%d, %d)", b, a.level)
				}
			}
			if t.Failed() {
				t.Fatal(seed, i)
			}
		}
	}
}

// TestClearOne: of two caches of one configuration the other one stays.
func TestClearOne(t *testing.T) {
	for _, c := range []api.Config{plain(4), queued(4, 2, 9, 2), leveled(4), parted(t, 4, "0+9:1")} {
		a, b := holding(t, c, "1 2=bb 3"), holding(t, c, "3=aa 1")
		a.Clear()
		checkEnd(t, a, "")
		checkEnd(t, b, "3=aa 1")
	}
}
