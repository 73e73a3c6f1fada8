package array_test

import (
	"testing"

	"gradine/api"
	"gradine/array"
	"gradine/sector"
)

// checkDeaf tells where an array that is down hears anything, or isn't as it was.
func checkDeaf(t *testing.T, a *array.Array, blocks ...int) {
	t.Helper()
	checkDown(t, a, true)
	reads := a.Reads()
	for _, m := range []api.Msg{read(0, 3), read(3, 0), read(31, 0), write(8, 0, 3, "zz"), write(1, 3, 3, "zz"), write(9, 31, 3, "zz"), demote(5, 3, zero), drop(2), drop(3)} {
		checkHear(t, a, m)
	}
	checkBlocks(t, a, blocks...)
	checkReads(t, a, reads)
	checkDown(t, a, true)
}

// TestWhereverItGoesDown: behind whichever sector a write is cut off, nothing is told of it, and the array is down; a new one over the disk has it done once, if its journal was written, and else not at all.
func TestWhereverItGoesDown(t *testing.T) {
	for _, c := range kinds() {
		for cut := range 4 {
			d := sector.New(sectors)
			a := over(t, c, d)
			a.Hear(write(1, 3, 3, "aa"))
			a.Hear(read(2, 3))
			d.Fuse(cut)
			m := write(2, 3, 3, "bb")
			checkHear(t, a, m)
			checkDeaf(t, a, 2, 3)
			if cut < 2 {
				checkStored(t, a, 3, "aa", 1)
			} else {
				checkStored(t, a, 3, "bb", 2)
			}
			d.Up()
			checkDeaf(t, a, 2, 3)
			a = over(t, c, d)
			checkDown(t, a, false)
			checkBlocks(t, a)
			checkReads(t, a, 0)
			if cut == 0 {
				checkStored(t, a, 3, "aa", 1)
			} else {
				checkStored(t, a, 3, "bb", 2)
			}
			checkHear(t, a, m, done(m, api.OK, cut == 0))
			checkStored(t, a, 3, "bb", 2)
			checkHear(t, a, read(3, 0), data(3, "bb"))
		}
	}
}

// TestNotDown: a write for which the fuse is long enough is done.
func TestNotDown(t *testing.T) {
	for _, c := range kinds() {
		d := sector.New(sectors)
		a := over(t, c, d)
		d.Fuse(4)
		m := write(1, 3, 3, "aa")
		checkHear(t, a, m, done(m, api.OK, true))
		checkDown(t, a, false)
		checkHeld(t, a, 3, "aa")
		checkHear(t, a, write(2, 3, 3, "bb"))
		checkDeaf(t, a, 3)
	}
}

// TestLastGoesDown: a block that has no versions left takes one sector's write, which may be cut off too.
func TestLastGoesDown(t *testing.T) {
	d := aged(t, 3, api.MaxVersion, "aa")
	a := over(t, plain(api.MInclusive, 2), d)
	d.Fuse(1)
	m := write(1, 3, 0, "bb")
	checkHear(t, a, m, done(m, api.ErrLast, false))
	checkDown(t, a, false)
	checkHear(t, a, write(2, 3, 0, "bb"))
	checkDeaf(t, a)
	checkStored(t, a, 3, "aa", api.MaxVersion)
}

// TestDownUnheard: over a disk that is down, or is about to be, an array is not, till a write finds it so: what is read, or is wrong, old or came again, is answered, as nothing is written for it.
func TestDownUnheard(t *testing.T) {
	for _, c := range kinds() {
		for _, down := range []bool{false, true} {
			d := sector.New(sectors)
			a := over(t, c, d)
			m := write(3, 3, 3, "aa")
			a.Hear(m)
			d.Fuse(0)
			if down {
				d.Write(0, nil)
			}
			checkHear(t, a, write(2, 3, 0, "bb"))
			checkHear(t, a, m, done(m, api.OK, false))
			for _, wrong := range []api.Msg{write(4, 31, 0, "bb"), write(4, 3, 0, "b"), write(0, 3, 0, "bb")} {
				if got := a.Hear(wrong); len(got) != 1 || got[0].Kind != api.BDone || got[0].Code == api.OK || wrong.Op != 0 && got[0].Code == api.ErrDown {
					t.Error(tell(got))
				}
			}
			checkHear(t, a, demote(2, 3, zero))
			checkHear(t, a, read(2, 3), data(2, zero))
			checkHear(t, a, drop(2))
			checkHear(t, a, read(3, 3), data(3, "aa"))
			checkHear(t, a, read(31, 0), noData(31))
			checkDown(t, a, false)
			checkStored(t, a, 3, "aa", 1)
			checkHear(t, a, write(4, 3, 3, "bb"))
			checkDeaf(t, a, 3)
		}
	}
}

// TestNewOverDown: there is an array over a disk that is down, unless something has to be done once more there: that is told, till the disk is up.
func TestNewOverDown(t *testing.T) {
	c := plain(api.MInclusive, 2)
	for cut := range 4 {
		d := sector.New(sectors)
		a := over(t, c, d)
		a.Hear(write(1, 3, 0, "aa"))
		d.Fuse(cut)
		checkHear(t, a, write(2, 3, 0, "bb"))
		a, e := array.New(c, d)
		if cut == 0 {
			if a == nil || e != api.OK {
				t.Fatalf("cut off behind %d: %v %d", cut, a, int(e))
			}
			checkDown(t, a, false)
			checkHear(t, a, read(3, 0), data(3, "aa"))
			checkHear(t, a, write(2, 3, 0, "bb"))
			checkDeaf(t, a, 3)
			continue
		}
		if a != nil || e != api.ErrDown {
			t.Errorf("cut off behind %d: %v %d", cut, a, int(e))
		}
		d.Up()
		checkStored(t, over(t, c, d), 3, "bb", 2)
	}
}

// TestTwoOverOneDisk: each of them hears for itself whether the disk is down.
func TestTwoOverOneDisk(t *testing.T) {
	c := plain(api.MNine, 2)
	d := sector.New(sectors)
	one, other := over(t, c, d), over(t, c, d)
	d.Fuse(0)
	checkHear(t, one, write(1, 3, 0, "aa"))
	checkDown(t, one, true)
	checkDown(t, other, false)
	d.Up()
	m := write(1, 3, 0, "bb")
	checkHear(t, other, m, done(m, api.OK, true))
	checkDeaf(t, one)
	checkStored(t, one, 3, "bb", 1)
}
