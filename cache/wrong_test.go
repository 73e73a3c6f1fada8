package cache_test

import (
	"strconv"
	"strings"
	"testing"

	"gradine/api"
	"gradine/cache"
)

// checkNotNew tells where New answers another error than ErrArg, or anything beside it.
func checkNotNew(t *testing.T, c api.Config, tier int) {
	t.Helper()
	if k, e := cache.New(c, tier); k != nil || e != api.ErrArg {
		t.Errorf("New(%v, %d): %v %d", c, tier, k, int(e))
	}
}

// TestNewWrong: there is none of no tier, whatever the configuration is.
func TestNewWrong(t *testing.T) {
	for _, c := range append(kinds(t), api.Config{}, plain(17)) {
		for _, tier := range beyond(1, tiers) {
			checkNotNew(t, c, tier)
		}
	}
}

// wrongs are configurations each of which has one thing that may not be, some of which no cache asks for.
func wrongs(t *testing.T) map[string]api.Config {
	t.Helper()
	l := map[string]api.Config{"none": {}, "a hint beyond Blocks": parted(t, 4, "0+21:1"), "two hints of one block": parted(t, 4, "0+3:1 2+2:1"), "Often below 0": parted(t, 4, "0+3:-1")}
	for name, change := range map[string]func(c *api.Config){
		"Clients 0":               func(c *api.Config) { c.Clients = 0 },
		"Slots 5":                 func(c *api.Config) { c.Slots = 5 },
		"Blocks 0":                func(c *api.Config) { c.Blocks = 0 },
		"Blocks 33":               func(c *api.Config) { c.Blocks = 33 },
		"Size 0":                  func(c *api.Config) { c.Size = 0 },
		"Size 17":                 func(c *api.Config) { c.Size = 17 },
		"Mode 4":                  func(c *api.Config) { c.Mode = 4 },
		"Place 3":                 func(c *api.Config) { c.Place = 3 },
		"PUni, but inclusive":     func(c *api.Config) { c.Place, c.Mode = api.PUni, api.MInclusive },
		"PKarma, but MNine":       func(c *api.Config) { c.Place, c.Mode = api.PKarma, api.MNine },
		"a tier's policy 3":       func(c *api.Config) { c.Policy[1] = 3 },
		"a tier's capacity 0":     func(c *api.Config) { c.Cap[2] = 0 },
		"a tier's capacity 17":    func(c *api.Config) { c.Cap[0] = 17 },
		"Queues 9":                func(c *api.Config) { c.Queues = 9 },
		"Life 0":                  func(c *api.Config) { c.Life = 0 },
		"Ghost 17":                func(c *api.Config) { c.Ghost = 17 },
		"Demote 0":                func(c *api.Config) { c.Demote = 0 },
		"hints without PKarma":    func(c *api.Config) { c.Hints = []api.Hint{{From: 0, Size: 1, Often: 1}} },
		"hints with PUni":         func(c *api.Config) { c.Place, c.Hints = api.PUni, []api.Hint{{From: 0, Size: 1, Often: 1}} },
		"nine hints, with PKarma": func(c *api.Config) { c.Place, c.Hints = api.PKarma, nineHints() },
	} {
		c := plain(4)
		change(&c)
		l[name] = c
	}
	return l
}

func nineHints() []api.Hint {
	var l []api.Hint
	for b := range 9 {
		l = append(l, api.Hint{From: b, Size: 1, Often: 1})
	}
	return l
}

// TestNewOfWrong: there is none of a configuration that isn't right, be it for another tier, or for something that no cache asks for.
func TestNewOfWrong(t *testing.T) {
	for name, c := range wrongs(t) {
		for tier := 1; tier <= tiers; tier++ {
			if checkNotNew(t, c, tier); t.Failed() {
				t.Fatal(name)
			}
		}
	}
}

// tooLong are bytes that aren't as many as a block's.
func tooLong() []string {
	return []string{"", "a", "aaa", strings.Repeat("a", 16), strings.Repeat("a", 300)}
}

// TestNoSuchBlock: it isn't taken, put, set, used or dropped, and is told ahead of all else that is wrong.
func TestNoSuchBlock(t *testing.T) {
	const s = "8 1 9 0 5 4"
	for _, c := range kinds(t) {
		c.Blocks = 10
		k := holding(t, c, s)
		for _, b := range append(noBlocks(10), 10, 11, 19) {
			for _, level := range anyLevels() {
				for _, data := range append(tooLong(), "aa") {
					checkNoPut(t, k, api.Frame{Block: b, Data: []byte(data)}, level, api.ErrBlock)
				}
			}
			checkNoUse(t, k, b)
			checkNoDrop(t, k, b)
			checkSet(t, k, api.Frame{Block: b, Data: []byte("aa")}, false)
		}
		checkEnd(t, k, s)
	}
}

// TestWrongSize: it is told of a block that is there and of one that isn't, ahead of one that isn't taken; nothing changes, and nothing is used.
func TestWrongSize(t *testing.T) {
	const s = "8 1 9 0 5 4"
	for _, c := range kinds(t) {
		k := holding(t, c, s)
		for _, data := range tooLong() {
			for _, b := range []int{4, 8, 0, 3, 19} {
				for _, level := range anyLevels() {
					checkNoPut(t, k, api.Frame{Block: b, Data: []byte(data)}, level, api.ErrSize)
				}
				checkSet(t, k, api.Frame{Block: b, Data: []byte(data)}, false)
			}
		}
		checkNoPut(t, k, api.Frame{Block: 4}, 1, api.ErrSize)
		checkSet(t, k, api.Frame{Block: 4}, false)
		checkEnd(t, k, s)
	}
}

// TestSizeOfItsOwn: what is wrong hangs on the configuration's Size.
func TestSizeOfItsOwn(t *testing.T) {
	for n := 1; n <= api.MaxSize; n++ {
		c := plain(2)
		c.Size = n
		k := newCache(t, c, 2)
		for m := range 20 {
			f := api.Frame{Block: 3, Data: []byte(strings.Repeat("x", m))}
			if m != n {
				checkNoPut(t, k, f, 0, api.ErrSize)
				checkAll(t, k, "")
			} else {
				checkPut(t, k, tellFrame(f), "")
				checkDrop(t, k, tellFrame(f))
			}
		}
	}
}

// TestWrongLevel: with PUni a block of another level isn't put, be it there already or not; it isn't used then, nor are its bytes others.
func TestWrongLevel(t *testing.T) {
	for tier := 1; tier <= tiers; tier++ {
		k := newCache(t, leveled(2), tier)
		checkPutAt(t, k, "2", tier, "")
		checkPutAt(t, k, "1", tier, "")
		for _, level := range append(beyond(tier, tier), 0, 4) {
			for _, b := range []int{2, 1, 3, 0, 19} {
				checkNoPut(t, k, api.Frame{Block: b, Data: []byte("xx")}, level, api.ErrNone)
			}
		}
		checkAll(t, k, "1 2")
		checkPutAt(t, k, "3", tier, "2")
		checkEnd(t, k, "3 1")
	}
}

// TestWrongRange: with PKarma a block of no range, or of one without a part of the tier, isn't put, whatever its level is.
func TestWrongRange(t *testing.T) {
	c := parted(t, 2, "0+2:9 4+2:5o 8+2:3 12+2:1")
	for tier, taken := range []int{0, 4, 8} {
		k := newCache(t, c, tier+1)
		for _, b := range []int{taken, taken + 1} {
			checkPutAt(t, k, strconv.Itoa(b), 0, "")
		}
		for b := range c.Blocks {
			if b != taken && b != taken+1 {
				for _, level := range anyLevels() {
					checkNoPut(t, k, frameOf(t, strconv.Itoa(b)), level, api.ErrNone)
				}
				checkNoUse(t, k, b)
				checkNoDrop(t, k, b)
				checkSet(t, k, frameOf(t, strconv.Itoa(b)), false)
			}
		}
		checkEnd(t, k, strconv.Itoa(taken+1)+" "+strconv.Itoa(taken))
	}
}

// TestNotThere: what isn't there isn't used, set or dropped, and it isn't there for having been asked for.
func TestNotThere(t *testing.T) {
	for _, c := range kinds(t) {
		for _, s := range []string{"", "5", "9 5 0", "8 1 9 0 5 4"} {
			k := holding(t, c, s)
			for _, b := range []int{2, 3, 6, 7, 19} {
				checkNoUse(t, k, b)
				checkSet(t, k, frameOf(t, strconv.Itoa(b)), false)
				checkNoDrop(t, k, b)
				checkNoUse(t, k, b)
			}
			checkEnd(t, k, s)
		}
	}
}

// TestNil: of no cache nothing is told, and nothing done.
func TestNil(t *testing.T) {
	var k *cache.Cache
	for _, b := range append(noBlocks(20), 0, 1, 19) {
		for _, data := range append(tooLong(), "aa") {
			f := api.Frame{Block: b, Data: []byte(data)}
			checkSet(t, k, f, false)
			for _, level := range anyLevels() {
				checkNoPut(t, k, f, level, api.ErrNil)
			}
		}
		checkNoUse(t, k, b)
		checkNoDrop(t, k, b)
	}
	for _, level := range anyLevels() {
		checkTakes(t, k, level, nil)
	}
	k.Clear()
	checkAll(t, k, "")
	if l := k.All(); l != nil {
		t.Error(l)
	}
}
