package array_test

import (
	"math"
	"strings"
	"testing"

	"gradine/api"
	"gradine/array"
	"gradine/sector"
)

func checkNotNew(t *testing.T, c api.Config, d *sector.Disk, want api.Errno) {
	t.Helper()
	if a, e := array.New(c, d); a != nil || e != want {
		t.Errorf("New(%+v): %v %d, not %d", c, a, int(e), int(want))
	}
}

// wrongs are configurations each of which has one thing that may not be.
func wrongs() map[string]api.Config {
	l := map[string]api.Config{"none": {}}
	for name, change := range map[string]func(c *api.Config){
		"Clients 0":              func(c *api.Config) { c.Clients = 0 },
		"Clients 5":              func(c *api.Config) { c.Clients = 5 },
		"Slots 0":                func(c *api.Config) { c.Slots = 0 },
		"Slots 5":                func(c *api.Config) { c.Slots = 5 },
		"Blocks 0":               func(c *api.Config) { c.Blocks = 0 },
		"Blocks 33":              func(c *api.Config) { c.Blocks = 33 },
		"Size 0":                 func(c *api.Config) { c.Size = 0 },
		"Size 17":                func(c *api.Config) { c.Size = 17 },
		"Mode 0":                 func(c *api.Config) { c.Mode = 0 },
		"Mode 4":                 func(c *api.Config) { c.Mode = 4 },
		"Place 3":                func(c *api.Config) { c.Place = 3 },
		"PUni, but inclusive":    func(c *api.Config) { c.Place, c.Mode = api.PUni, api.MInclusive },
		"PKarma, but MNine":      func(c *api.Config) { c.Place, c.Mode = api.PKarma, api.MNine },
		"a client's policy 3":    func(c *api.Config) { c.Policy[0] = 3 },
		"the array's capacity 0": func(c *api.Config) { c.Cap[2] = 0 },
		"a client's capacity 17": func(c *api.Config) { c.Cap[0] = 17 },
		"Queues 9":               func(c *api.Config) { c.Queues = 9 },
		"Life 0":                 func(c *api.Config) { c.Life = 0 },
		"Ghost 17":               func(c *api.Config) { c.Ghost = 17 },
		"Demote 0":               func(c *api.Config) { c.Demote = 0 },
		"hints without PKarma":   func(c *api.Config) { c.Hints = []api.Hint{{From: 0, Size: 1, Often: 1}} },
		"a hint beyond Blocks": func(c *api.Config) {
			c.Place, c.Mode, c.Hints = api.PKarma, api.MExclusive, []api.Hint{{From: blocks, Size: 1, Often: 1}}
		},
	} {
		c := plain(api.MInclusive, 2)
		change(&c)
		l[name] = c
	}
	return l
}

// TestNewOfWrong: there is no array of a configuration that isn't right, which is told ahead of what is wrong with the disk, whose journal isn't touched then.
func TestNewOfWrong(t *testing.T) {
	for name, c := range wrongs() {
		d := sector.New(sectors)
		a := over(t, plain(api.MInclusive, 2), d)
		d.Fuse(1)
		a.Hear(write(1, 3, 0, "aa"))
		checkNotNew(t, c, d, api.ErrArg)
		d.Up()
		checkNotNew(t, c, d, api.ErrArg)
		checkNotNew(t, c, nil, api.ErrArg)
		checkNotNew(t, c, sector.New(0), api.ErrArg)
		if b, e := d.Read(0); len(b) == 0 || e != api.OK {
			t.Errorf("the journal is empty")
		}
		if b, e := d.Read(4); len(b) != 0 || e != api.OK {
			t.Errorf("block 3: %q", b)
		}
		if t.Failed() {
			t.Fatal(name)
		}
	}
}

// TestNewOverNone: without a disk there is no array, nor over one with too few sectors, which are one, and one for each block, and one for each slot.
func TestNewOverNone(t *testing.T) {
	for _, c := range kinds() {
		checkNotNew(t, c, nil, api.ErrNil)
		enough := 1 + blocks + 2*3
		for n := range enough {
			checkNotNew(t, c, sector.New(n), api.ErrArg)
		}
		over(t, c, sector.New(enough))
	}
	c := plain(api.MNine, 2)
	c.Clients, c.Slots, c.Blocks, c.Size = 4, 4, 32, 16
	checkNotNew(t, c, sector.New(48), api.ErrArg)
	over(t, c, sector.New(49))
}

// notRight are messages that aren't right, which would do something, were that not asked: each of them has a number beyond its bounds, or a field that its kind doesn't name.
func notRight() []api.Msg {
	var l []api.Msg
	for _, m := range []api.Msg{read(3, 3), write(9, 3, 3, "zz"), demote(3, 3, "zz"), drop(3), read(4, 0), write(9, 4, 0, "zz")} {
		for _, n := range []int{-1, math.MinInt, math.MaxInt, 1 << 41} {
			for _, f := range []*int{&m.Client, &m.Slot, &m.Boot, &m.Op, &m.Block, &m.Level, &m.Round, (*int)(&m.Code)} {
				was := *f
				*f = n
				l = append(l, m)
				*f = was
			}
		}
		for _, change := range []func(m *api.Msg){
			func(m *api.Msg) { m.Round = 1 },
			func(m *api.Msg) { m.Code = api.ErrShort },
			func(m *api.Msg) { m.Grant = true },
			func(m *api.Msg) { m.Client += 4 },
			func(m *api.Msg) { m.Slot += 4 },
			func(m *api.Msg) { m.Block += 32 },
			func(m *api.Msg) { m.Level += 5 },
			func(m *api.Msg) { m.Boot += great },
			func(m *api.Msg) { m.Op += great + 1 },
			func(m *api.Msg) { m.Data = []byte(strings.Repeat("z", 65)) },
		} {
			wrong := m
			change(&wrong)
			l = append(l, wrong)
		}
	}
	return append(l, noFields()...)
}

// noFields are messages with a field that their kind doesn't name, and of no kind.
func noFields() []api.Msg {
	l := []api.Msg{
		{Kind: api.ARead, Client: 1, Block: 3, Level: 3},
		{Kind: api.ARead, Slot: 1, Block: 3, Level: 3},
		{Kind: api.ARead, Boot: 1, Block: 3, Level: 3},
		{Kind: api.ARead, Op: 1, Block: 3, Level: 3},
		{Kind: api.ARead, Block: 3, Level: 3, Data: []byte{0}},
		{Kind: api.ADemote, Client: 1, Block: 3, Level: 3, Data: []byte("zz")},
		{Kind: api.ADemote, Op: 1, Block: 3, Level: 3, Data: []byte("zz")},
		{Kind: api.ADrop, Block: 3, Level: 3},
		{Kind: api.ADrop, Block: 3, Data: []byte(zero)},
	}
	for _, kind := range []int{0, -1, -8, 15, 16, 22, 264, math.MaxInt, math.MinInt, 1<<32 + api.ARead, 1<<32 + api.ADrop} {
		l = append(l, api.Msg{Kind: kind}, api.Msg{Kind: kind, Block: 3, Level: 3, Data: []byte("zz")})
	}
	return l
}

// TestHearNotRight: nothing is told of a message that isn't right, and nothing is read, written, held, used or dropped.
func TestHearNotRight(t *testing.T) {
	for _, c := range kinds() {
		a := newArray(t, c)
		checkHear(t, a, write(1, 3, 3, "aa"), done(write(1, 3, 3, ""), api.OK, true))
		a.Hear(read(2, 3))
		for _, m := range notRight() {
			checkHear(t, a, m)
			checkBlocks(t, a, 2, 3)
		}
		checkReads(t, a, 1)
		checkDown(t, a, false)
		for b := range blocks {
			if b != 3 {
				checkStored(t, a, b, zero, 0)
			}
		}
		checkStored(t, a, 3, "aa", 1)
		checkHear(t, a, write(1, 3, 3, "aa"), done(write(1, 3, 3, ""), api.OK, false))
		checkHeld(t, a, 3, "aa")
	}
}

// TestNil: of no array nothing is told, and it is down.
func TestNil(t *testing.T) {
	var a *array.Array
	for _, m := range append(notRight(), read(3, 3), write(1, 3, 3, "aa"), demote(3, 3, zero), drop(3)) {
		if l := a.Hear(m); l != nil {
			t.Error(tell(l))
		}
	}
	checkDown(t, a, true)
	checkReads(t, a, 0)
	if l := a.Blocks(); l != nil {
		t.Error(l)
	}
	for _, b := range []int{-1, 0, 3, 31, 32, math.MaxInt, math.MinInt} {
		if l, v, e := a.Stored(b); l != nil || v != 0 || e != api.ErrNil {
			t.Errorf("Stored(%d): %q %d %d", b, l, v, int(e))
		}
	}
}
