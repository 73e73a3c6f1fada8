package sector_test

import (
	"bytes"
	"math"
	"strings"
	"testing"

	"gradine/api"
	"gradine/sector"
)

// wrongPlaces are numbers of no sector of a disk that has so many.
func wrongPlaces(n int) []int {
	return []int{-1, -2, -n - 1, n, n + 1, 2*n + 1, 256, 257, 1 << 32, math.MaxInt, math.MinInt}
}

func checkWrite(t *testing.T, d *sector.Disk, at int, s string, want api.Errno) {
	t.Helper()
	if e := d.Write(at, []byte(s)); e != want {
		t.Errorf("Write(%d, %q): %d, not %d", at, s, int(e), int(want))
	}
}

func checkRead(t *testing.T, d *sector.Disk, at int, want string) {
	t.Helper()
	if b, e := d.Read(at); string(b) != want || e != api.OK {
		t.Errorf("Read(%d): %q %d, not %q", at, b, int(e), want)
	}
}

// checkNoRead tells where there is a sector, or something is answered beside the error.
func checkNoRead(t *testing.T, d *sector.Disk, at int) {
	t.Helper()
	if b, e := d.Read(at); len(b) != 0 || e != api.ErrRange {
		t.Errorf("Read(%d): %q %d", at, b, int(e))
	}
}

func checkDown(t *testing.T, d *sector.Disk, want bool) {
	t.Helper()
	if d.Down() != want {
		t.Errorf("down %v, not %v", !want, want)
	}
}

// downed is a disk of so many sectors that is down, whose sector 0 has these bytes.
func downed(t *testing.T, sectors int, s string) *sector.Disk {
	t.Helper()
	d := sector.New(sectors)
	d.Fuse(1)
	checkWrite(t, d, 0, s, api.OK)
	checkWrite(t, d, 0, "not this", api.ErrDown)
	checkDown(t, d, true)
	return d
}

func TestNew(t *testing.T) {
	for sectors, want := range map[int]int{
		0: 0, 1: 1, 2: 2, 64: 64, 255: 255, 256: 256,
		-1: 0, -256: 0, math.MinInt: 0, 257: 256, 512: 256, 1 << 32: 256, math.MaxInt: 256,
	} {
		d := sector.New(sectors)
		if d == nil || d.Len() != want {
			t.Fatalf("New(%d): %d sectors, not %d", sectors, d.Len(), want)
		}
		checkDown(t, d, false)
		for at := range want {
			checkRead(t, d, at, "")
		}
		checkNoRead(t, d, want)
	}
}

// TestNewHasNoFuse: as many sectors as one likes are written.
func TestNewHasNoFuse(t *testing.T) {
	d := sector.New(3)
	for i := range 1000 {
		checkWrite(t, d, i%3, "a", api.OK)
	}
	checkDown(t, d, false)
}

func TestEachSectorIsItsOwn(t *testing.T) {
	for _, n := range []int{1, 2, 64, 256} {
		d := sector.New(n)
		for at := range n {
			checkWrite(t, d, at, strings.Repeat(string(rune('a'+at%26)), at%65), api.OK)
			if at+1 < n {
				checkRead(t, d, at+1, "")
			}
		}
		for at := range n {
			checkRead(t, d, at, strings.Repeat(string(rune('a'+at%26)), at%65))
		}
		if d.Len() != n {
			t.Errorf("%d sectors, not %d", d.Len(), n)
		}
	}
}

// TestASectorIsWhatWasWrittenLast: nothing is left of what it was, shorter or longer.
func TestASectorIsWhatWasWrittenLast(t *testing.T) {
	d := sector.New(2)
	for _, s := range []string{"abc", "x", "", "de", strings.Repeat("z", 64), "\x00", "q\x00", ""} {
		checkWrite(t, d, 1, s, api.OK)
		checkRead(t, d, 1, s)
		checkRead(t, d, 1, s)
		checkRead(t, d, 0, "")
	}
	checkWrite(t, d, 1, "abc", api.OK)
	if e := d.Write(1, nil); e != api.OK {
		t.Errorf("Write(1, nil): %d", int(e))
	}
	checkRead(t, d, 1, "")
}

// TestAnyBytes: of each length that a sector holds, each byte as it was.
func TestAnyBytes(t *testing.T) {
	d := sector.New(1)
	for n := range 65 {
		for first := range 256 {
			b := make([]byte, n)
			for i := range b {
				b[i] = byte(first + i)
			}
			checkWrite(t, d, 0, string(b), api.OK)
			checkRead(t, d, 0, string(b))
		}
	}
}

// TestNoSuchSector: nothing is written, and nothing read.
func TestNoSuchSector(t *testing.T) {
	for _, n := range []int{0, 1, 3, 255} {
		d := sector.New(n)
		for at := range n {
			checkWrite(t, d, at, "kept", api.OK)
		}
		for _, at := range wrongPlaces(n) {
			checkWrite(t, d, at, "a", api.ErrRange)
			checkWrite(t, d, at, "", api.ErrRange)
			checkWrite(t, d, at, strings.Repeat("a", 65), api.ErrRange)
			checkNoRead(t, d, at)
		}
		for at := range n {
			checkRead(t, d, at, "kept")
		}
	}
}

func TestMoreThanASectorHolds(t *testing.T) {
	d := sector.New(2)
	checkWrite(t, d, 1, "kept", api.OK)
	for _, n := range []int{65, 66, 127, 128, 129, 256, 320, 1000, 1 << 16} {
		checkWrite(t, d, 1, strings.Repeat("a", n), api.ErrFull)
		checkRead(t, d, 1, "kept")
	}
}

// TestRoomIsNotLength: spare room behind the bytes is neither counted nor written.
func TestRoomIsNotLength(t *testing.T) {
	all := bytes.Repeat([]byte("ab"), 500)
	d := sector.New(1)
	for _, n := range []int{0, 1, 63, 64} {
		if e := d.Write(0, all[:n]); e != api.OK {
			t.Errorf("%d bytes: %d", n, int(e))
		}
		checkRead(t, d, 0, string(all[:n]))
	}
	if e := d.Write(0, all[:65:65]); e != api.ErrFull {
		t.Errorf("65 bytes: %d", int(e))
	}
}

// TestNil: of no disk nothing is told, and nothing done.
func TestNil(t *testing.T) {
	var d *sector.Disk
	for _, at := range append(wrongPlaces(0), 0, 1) {
		checkWrite(t, d, at, "a", api.ErrNil)
		checkWrite(t, d, at, strings.Repeat("a", 65), api.ErrNil)
		if b, e := d.Read(at); len(b) != 0 || e != api.ErrNil {
			t.Errorf("Read(%d): %q %d", at, b, int(e))
		}
	}
	for _, n := range []int{0, 1, -1, math.MaxInt, math.MinInt} {
		d.Fuse(n)
		checkWrite(t, d, 0, "a", api.ErrNil)
		checkDown(t, d, false)
	}
	d.Up()
	checkDown(t, d, false)
	if d.Len() != 0 {
		t.Errorf("%d sectors", d.Len())
	}
}
