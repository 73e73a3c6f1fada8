package sector_test

import (
	"math"
	"strconv"
	"strings"
	"testing"

	"gradine/api"
	"gradine/sector"
)

// TestFuse: so many sectors are written, and the next one takes the disk down.
func TestFuse(t *testing.T) {
	for _, n := range []int{0, 1, 2, 3, 64, 300, 1000} {
		d := sector.New(4)
		checkWrite(t, d, 3, "ahead", api.OK)
		d.Fuse(n)
		for i := range n {
			checkWrite(t, d, i%3, strconv.Itoa(i), api.OK)
			checkDown(t, d, false)
		}
		checkWrite(t, d, 3, "behind", api.ErrDown)
		checkDown(t, d, true)
		checkRead(t, d, 3, "ahead")
		for at := range 3 {
			checkWrite(t, d, at, "behind", api.ErrDown)
		}
		checkLast(t, d, n)
	}
}

// checkLast tells where the first three sectors haven't what was written last of the numbers below n, by turns.
func checkLast(t *testing.T, d *sector.Disk, n int) {
	t.Helper()
	for at := range 3 {
		want := ""
		for i := at; i < n; i += 3 {
			want = strconv.Itoa(i)
		}
		checkRead(t, d, at, want)
	}
}

// TestTheSameSectorBurnsToo: it is writes that count, not the sectors they change.
func TestTheSameSectorBurnsToo(t *testing.T) {
	d := sector.New(2)
	d.Fuse(3)
	for _, s := range []string{"a", "a", ""} {
		checkWrite(t, d, 1, s, api.OK)
	}
	checkWrite(t, d, 1, "", api.ErrDown)
	checkDown(t, d, true)
}

// TestWhatIsRefusedBurnsNothing: nor does it take the disk down where the fuse is 0.
func TestWhatIsRefusedBurnsNothing(t *testing.T) {
	d := sector.New(3)
	d.Fuse(2)
	for left := 2; left >= 0; left-- {
		for _, at := range wrongPlaces(3) {
			checkWrite(t, d, at, "a", api.ErrRange)
		}
		checkWrite(t, d, 0, strings.Repeat("a", 65), api.ErrFull)
		checkWrite(t, d, 3, strings.Repeat("a", 65), api.ErrRange)
		checkDown(t, d, false)
		if left > 0 {
			checkWrite(t, d, 0, "b", api.OK)
		}
	}
	checkWrite(t, d, 0, "c", api.ErrDown)
	checkDown(t, d, true)
	checkRead(t, d, 0, "b")
}

// TestReadingBurnsNothing: nor do the other questions.
func TestReadingBurnsNothing(t *testing.T) {
	d := sector.New(2)
	d.Fuse(1)
	for range 5 {
		checkRead(t, d, 0, "")
		checkNoRead(t, d, 2)
		checkDown(t, d, false)
		d.Len()
	}
	checkWrite(t, d, 0, "a", api.OK)
	checkRead(t, d, 0, "a")
	checkDown(t, d, false)
	checkWrite(t, d, 0, "b", api.ErrDown)
}

// TestTheLastFuseHolds: it stands in place of the one ahead, whatever was left of that.
func TestTheLastFuseHolds(t *testing.T) {
	for _, ahead := range []int{0, 1, 3, 9, -1, math.MinInt, math.MaxInt} {
		d := sector.New(1)
		d.Fuse(ahead)
		d.Fuse(3)
		checkWrite(t, d, 0, "a", api.OK)
		d.Fuse(2)
		checkWrite(t, d, 0, "b", api.OK)
		checkWrite(t, d, 0, "c", api.OK)
		checkWrite(t, d, 0, "d", api.ErrDown)
		checkDown(t, d, true)
		checkRead(t, d, 0, "c")
	}
}

// TestNoFuse: below 0 there is none, and a great one isn't burnt down by some writes.
func TestNoFuse(t *testing.T) {
	for _, n := range []int{-1, -2, -300, math.MinInt, math.MaxInt, 1 << 32} {
		d := sector.New(2)
		d.Fuse(1)
		d.Fuse(n)
		for i := range 1000 {
			checkWrite(t, d, i%2, strconv.Itoa(i), api.OK)
		}
		checkDown(t, d, false)
		checkRead(t, d, 1, "999")
	}
}

// TestDown: all sectors are read as they were, and no write does anything.
func TestDown(t *testing.T) {
	d := downed(t, 3, "kept")
	for range 3 {
		checkWrite(t, d, 0, "a", api.ErrDown)
		checkWrite(t, d, 1, "", api.ErrDown)
		checkWrite(t, d, 1, strings.Repeat("a", 65), api.ErrDown)
		for _, at := range wrongPlaces(3) {
			checkWrite(t, d, at, "a", api.ErrDown)
			checkNoRead(t, d, at)
		}
		checkRead(t, d, 0, "kept")
		checkRead(t, d, 1, "")
		checkDown(t, d, true)
		if d.Len() != 3 {
			t.Errorf("%d sectors", d.Len())
		}
	}
}

// TestFuseOfADiskThatIsDown: it doesn't take the disk up, and isn't there behind Up.
func TestFuseOfADiskThatIsDown(t *testing.T) {
	for _, n := range []int{0, 1, 9, -1, math.MaxInt, math.MinInt} {
		d := downed(t, 1, "kept")
		d.Fuse(n)
		checkDown(t, d, true)
		checkWrite(t, d, 0, "a", api.ErrDown)
		checkRead(t, d, 0, "kept")
		d.Up()
		for range 20 {
			checkWrite(t, d, 0, "b", api.OK)
		}
		checkDown(t, d, false)
	}
}

// TestUp: what was written is there still, and there is no fuse.
func TestUp(t *testing.T) {
	d := downed(t, 2, "kept")
	d.Up()
	checkDown(t, d, false)
	checkRead(t, d, 0, "kept")
	for i := range 1000 {
		checkWrite(t, d, 1, strconv.Itoa(i), api.OK)
	}
	checkRead(t, d, 1, "999")
	d.Fuse(1)
	checkWrite(t, d, 0, "again", api.OK)
	checkWrite(t, d, 0, "not this", api.ErrDown)
	checkDown(t, d, true)
	d.Up()
	checkRead(t, d, 0, "again")
	checkWrite(t, d, 0, "more", api.OK)
}

// TestUpOfADiskThatIsUp: its fuse is gone.
func TestUpOfADiskThatIsUp(t *testing.T) {
	for _, n := range []int{0, 1, 5, -1} {
		d := sector.New(1)
		checkWrite(t, d, 0, "a", api.OK)
		d.Fuse(n)
		d.Up()
		checkRead(t, d, 0, "a")
		for range 20 {
			checkWrite(t, d, 0, "b", api.OK)
		}
		checkDown(t, d, false)
	}
}

// TestDisksAreApart: what is done to one isn't done to another one.
func TestDisksAreApart(t *testing.T) {
	a, b := sector.New(2), sector.New(2)
	a.Fuse(1)
	checkWrite(t, b, 0, "b", api.OK)
	checkWrite(t, b, 0, "bb", api.OK)
	checkWrite(t, a, 0, "a", api.OK)
	checkWrite(t, a, 0, "aa", api.ErrDown)
	checkDown(t, b, false)
	checkWrite(t, b, 1, "bbb", api.OK)
	b.Up()
	checkDown(t, a, true)
	checkRead(t, a, 0, "a")
	checkRead(t, b, 0, "bb")
}

// told is what the chapter's words say of a disk with one sector behind what was done: what the sector holds, what the last write answered, whether it is down.
// w writes, r and f are refused (no such sector, too many bytes), a digit is a fuse, n none, u takes it up.
func told(done string) (holds string, last api.Errno, down bool) {
	left := math.MaxInt
	for i, c := range done {
		last = api.OK
		switch {
		case c == 'u':
			down, left = false, math.MaxInt
		case down && strings.ContainsRune("wrf", c):
			last = api.ErrDown
		case down:
		case c == 'r':
			last = api.ErrRange
		case c == 'f':
			last = api.ErrFull
		case c == 'n':
			left = math.MaxInt
		case c != 'w':
			left = int(c - '0')
		case left > 0:
			left--
			holds = strconv.Itoa(i)
		default:
			last, down = api.ErrDown, true
		}
	}
	return holds, last, down
}

// play does that to a new disk, and answers what the last of it told.
func play(done string) (d *sector.Disk, last api.Errno) {
	d = sector.New(1)
	for i, c := range done {
		last = api.OK
		switch c {
		case 'u':
			d.Up()
		case 'n':
			d.Fuse(-1)
		case 'w':
			last = d.Write(0, []byte(strconv.Itoa(i)))
		case 'r':
			last = d.Write(1, nil)
		case 'f':
			last = d.Write(0, make([]byte, 65))
		default:
			d.Fuse(int(c - '0'))
		}
	}
	return d, last
}

// TestAllThatIsDoneInAFewSteps goes through all of it, of up to five steps.
func TestAllThatIsDoneInAFewSteps(t *testing.T) {
	var grow func(done string)
	grow = func(done string) {
		d, last := play(done)
		b, e := d.Read(0)
		holds, want, down := told(done)
		if last != want || string(b) != holds || e != api.OK || d.Down() != down || d.Len() != 1 {
			t.Fatalf("%s: %d, %q %d, down %v; not %d, %q, %v", done, int(last), b, int(e), d.Down(), int(want), holds, down)
		}
		if len(done) == 5 {
			return
		}
		for _, c := range "wrf012nu" {
			grow(done + string(c))
		}
	}
	grow("")
}
