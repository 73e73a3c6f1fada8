package cache_test

import (
	"slices"
	"strings"
	"testing"

	"gradine/api"
)

// kinds are configurations of each kind, in tier 1 of which there is room for six of the blocks 0 to 9.
func kinds(t *testing.T) []api.Config {
	t.Helper()
	return []api.Config{plain(6), queued(6, 3, 9, 4), leveled(6), parted(t, 6, "0+10:1"), parted(t, 6, "0+10:1o")}
}

// first is the text of blocks with one of them, with other bytes, ahead.
func first(s, f string) string {
	block, _, _ := strings.Cut(f, "=")
	return f + " " + without(s, block)
}

// without is the text of blocks without one of them.
func without(s, block string) string {
	l := strings.Fields(s)
	return strings.Join(slices.DeleteFunc(l, func(w string) bool { return w == block }), " ")
}

// TestPutAnew: from each place, of a cache that is full and of one that isn't, a block that is put again has these bytes, is used, and none goes.
func TestPutAnew(t *testing.T) {
	for _, c := range kinds(t) {
		for _, s := range []string{"5", "5 0", "9 5 0", "0 9 5 1", "8 1 9 0 5 4"} {
			for _, b := range strings.Fields(s) {
				k := holding(t, c, s)
				checkPut(t, k, b+"=xy", "")
				checkEnd(t, k, first(s, b+"=xy"))
				k = holding(t, c, s)
				checkPut(t, k, b, "")
				checkEnd(t, k, first(s, b))
			}
		}
	}
}

// TestUse: from each place a block's bytes are told, and it is used; they are told again and again.
func TestUse(t *testing.T) {
	for _, c := range kinds(t) {
		const s = "8 1 9=qq 0 5"
		for _, f := range strings.Fields(s) {
			k := holding(t, c, s)
			checkUse(t, k, f)
			checkUse(t, k, f)
			checkUse(t, k, f)
			checkEnd(t, k, first(without(s, f), f))
		}
	}
}

// TestPutIsUse: of an MQ a block that is put again was used once more, like one that is used.
func TestPutIsUse(t *testing.T) {
	for _, put := range []bool{false, true} {
		k := holding(t, queued(2, 2, 9, 0), "1")
		if put {
			checkPut(t, k, "1", "")
		} else {
			checkUse(t, k, "1")
		}
		checkPut(t, k, "2", "")
		checkPut(t, k, "3", "2")
		checkEnd(t, k, "1 3")
	}
}

// TestSet: from each place a block has these bytes, and stands where it stood.
func TestSet(t *testing.T) {
	for _, c := range kinds(t) {
		const s = "8 1 9 0 5 4"
		for _, b := range strings.Fields(s) {
			k := holding(t, c, s)
			for _, data := range []string{"xx", "yy", "\x00\x00", "zz"} {
				checkSet(t, k, frameOf(t, b+"="+data), true)
			}
			checkEnd(t, k, strings.Join(append(strings.Fields(s[:strings.Index(s, b)]), b+"=zz", s[strings.Index(s, b)+1:]), " "))
		}
	}
}

// TestSetIsNoUse: what goes, and when, is as if there had been none.
func TestSetIsNoUse(t *testing.T) {
	for _, x := range []struct {
		c    api.Config
		goes string
	}{
		{plain(2), "1=xx"},
		{queued(2, 2, 9, 0), "1=xx"},
		{leveled(2), "1=xx"},
		{parted(t, 2, "0+10:1"), "1=xx"},
		{parted(t, 2, "0+10:1o"), "2"},
	} {
		k := holding(t, x.c, "2 1")
		for range 3 {
			checkSet(t, k, frameOf(t, "1=xx"), true)
		}
		checkPut(t, k, "3", x.goes)
	}
}

// TestHasIsNoUse: nor is to ask for what is there, or taken.
func TestHasIsNoUse(t *testing.T) {
	for _, c := range kinds(t) {
		const s = "8 1 9 0 5"
		k := holding(t, c, s)
		for range 3 {
			for b := -2; b < 70; b++ {
				k.Has(b)
				k.Takes(b, 1)
				k.All()
				k.Len()
			}
		}
		checkEnd(t, k, s)
	}
}

// TestVictimsBytes: what goes has the bytes that it was given last, by a put, a put anew or Set.
func TestVictimsBytes(t *testing.T) {
	k := holding(t, plain(3), "2=cc 1=bb 0=aa")
	checkSet(t, k, frameOf(t, "0=dd"), true)
	checkPut(t, k, "3", "0=dd")
	checkPut(t, k, "2=ee", "")
	checkUse(t, k, "1=bb")
	checkPut(t, k, "4", "3")
	checkPut(t, k, "0=ff", "2=ee")
	checkPut(t, k, "5", "1=bb")
	checkEnd(t, k, "5 0=ff 4")
}

// TestComesAgain: a block that went, or was dropped, has no bytes any more, and comes again with those that it is put with.
func TestComesAgain(t *testing.T) {
	for _, c := range []api.Config{plain(1), queued(1, 2, 9, 2), leveled(1), parted(t, 1, "0+10:1"), parted(t, 1, "0+10:1o")} {
		k := holding(t, c, "0=aa")
		checkPut(t, k, "1=bb", "0=aa")
		checkNoUse(t, k, 0)
		checkNoDrop(t, k, 0)
		checkSet(t, k, frameOf(t, "0=xx"), false)
		checkPut(t, k, "0=cc", "1=bb")
		checkUse(t, k, "0=cc")
		checkDrop(t, k, "0=cc")
		checkNoUse(t, k, 0)
		checkNoDrop(t, k, 0)
		checkSet(t, k, frameOf(t, "0=xx"), false)
		checkPut(t, k, "0=dd", "")
		checkEnd(t, k, "0=dd")
	}
}

// TestDrop: from each place a block goes, with its bytes, and there is room for another one then, or for itself.
func TestDrop(t *testing.T) {
	for _, c := range kinds(t) {
		const s = "8 1 9 0 5 4"
		for _, b := range strings.Fields(s) {
			for _, f := range []string{b + "=xy", "3=xy"} {
				k := holding(t, c, s)
				checkDrop(t, k, b)
				checkNoDrop(t, k, number(t, b))
				checkPut(t, k, f, "")
				checkEnd(t, k, f+" "+without(s, b))
			}
		}
	}
}

// TestDropIsNoGhost: of an MQ what was dropped is known no more; the ghosts that there are stay.
func TestDropIsNoGhost(t *testing.T) {
	k := holding(t, queued(2, 2, 99, 4), "2 1")
	checkDrop(t, k, "1")
	checkPut(t, k, "1", "")
	checkPut(t, k, "3", "2")
	checkDrop(t, k, "1")
	checkPut(t, k, "2", "") // used twice, by its ghost
	checkPut(t, k, "4", "3")
	checkEnd(t, k, "2 4")
}

// TestOrders: All is the order's: an LRU's by use, an MQ's from the last queue down, a parted one's range by range as the hints stand.
func TestOrders(t *testing.T) {
	for _, x := range []struct {
		c   api.Config
		all string
	}{
		{plain(4), "1 5 0 4"},
		{leveled(4), "1 5 0 4"},
		{queued(4, 2, 99, 0), "5 4 1 0"},
		{queued(4, 3, 99, 0), "5 4 1 0"},
		{queued(4, 1, 99, 0), "1 5 0 4"},
		{parted(t, 4, "4+2:1 0+2:9"), "5 4 1 0"},
		{parted(t, 4, "0+2:1o 4+2:9"), "1 0 5 4"},
	} {
		k := newCache(t, x.c, 1)
		for _, b := range strings.Fields("4 4 5 0 5 1") {
			checkPut(t, k, b, "")
		}
		if checkEnd(t, k, x.all); t.Failed() {
			t.Fatal(x.c)
		}
	}
}

// TestSizes: of each size blocks have so many bytes, of any value.
func TestSizes(t *testing.T) {
	for n := 1; n <= api.MaxSize; n++ {
		c := plain(1)
		c.Size = n
		k := newCache(t, c, 3)
		for _, fill := range []string{"\x00", "\xff", "a"} {
			data := strings.Repeat(fill, n)
			checkPut(t, k, "7="+data, "")
			checkUse(t, k, "7="+data)
			data = "\x80" + data[1:]
			checkSet(t, k, frameOf(t, "7="+data), true)
			checkUse(t, k, "7="+data)
		}
		checkPut(t, k, "8="+strings.Repeat("b", n), "7=\x80"+strings.Repeat("a", n-1))
	}
}
