package cache

import (
	"maps"
	"slices"
	"testing"

	"gradine/api"
)

// checkKept tells where bytes are kept of others than the blocks that are there.
func checkKept(t *testing.T, c *Cache) {
	t.Helper()
	want := c.All()
	slices.Sort(want)
	if got := slices.Sorted(maps.Keys(c.bytes)); !slices.Equal(got, want) {
		t.Errorf("%v, not %v", got, want)
	}
}

// TestNoMoreIsKept: of blocks that went no bytes are kept, which nobody could tell from outside.
func TestNoMoreIsKept(t *testing.T) {
	c, e := New(api.Config{Clients: 1, Slots: 1, Blocks: 9, Size: 1, Mode: api.MNine, Policy: [3]int{1, 2, 1}, Cap: [3]int{1, 3, 1}, Queues: 2, Life: 9, Ghost: 9, Demote: 1}, 2)
	if e != api.OK {
		t.Fatal(int(e))
	}
	for b := range 12 {
		c.Put(api.Frame{Block: b, Data: []byte("a")}, 0)
		c.Put(api.Frame{Block: b}, 0)
		c.Set(api.Frame{Block: b - 3, Data: []byte("b")})
		checkKept(t, c)
	}
	c.Drop(7)
	c.Drop(7)
	checkKept(t, c)
	c.Clear()
	checkKept(t, c)
}
