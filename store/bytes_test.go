package store_test

import (
	"math"
	"slices"
	"strings"
	"testing"

	"gradine/api"
	"gradine/raw"
	"gradine/sector"
	"gradine/store"
)

// numbers are these as bytes, one behind the other.
func numbers(l ...int) string {
	var b []byte
	for _, n := range l {
		b = raw.Put(b, n)
	}
	return string(b)
}

// text is s as bytes.
func text(s string) string {
	return string(raw.PutText(nil, []byte(s)))
}

// put writes a sector behind the store's back.
func put(t *testing.T, d *sector.Disk, at int, s string) {
	t.Helper()
	if e := d.Write(at, []byte(s)); e != api.OK {
		t.Fatalf("sector %d: %d", at, int(e))
	}
}

func checkHeld(t *testing.T, d *sector.Disk, want ...string) {
	t.Helper()
	if l := held(t, d); !slices.Equal(l, want) {
		t.Errorf("%q, not %q", l, want)
	}
}

// TestBytes: what the sectors hold behind writes, in plain numbers.
func TestBytes(t *testing.T) {
	d, s := fresh(t, plain)
	checkWrite(t, s, api.Write{Client: 1, Slot: 0, Boot: 3, Op: 130, Block: 2, Data: []byte("ab")}, api.OK, api.OK)
	checkHeld(t, d, "", "", "", "\x01\x02ab", "", "", "\x03\x82\x01\x00", "")
	checkWrite(t, s, api.Write{Client: 0, Slot: 1, Boot: 1, Op: 1, Block: 2, Data: []byte("cd")}, api.OK, api.OK)
	checkHeld(t, d, "", "", "", "\x02\x02cd", "", "\x01\x01\x00", "\x03\x82\x01\x00", "")
	checkWrite(t, s, api.Write{Client: 1, Slot: 1, Boot: 1, Op: 1, Block: 0, Data: []byte("ef")}, api.OK, api.OK)
	checkWrite(t, s, api.Write{Client: 0, Slot: 0, Boot: 200, Op: 1, Block: 1, Data: []byte("gh")}, api.OK, api.OK)
	checkHeld(t, d, "", "\x01\x02ef", "\x01\x02gh", "\x02\x02cd", "\xc8\x01\x01\x00", "\x01\x01\x00", "\x03\x82\x01\x00", "\x01\x01\x00")
}

// TestWhereSlotsAre: clients with more, and fewer, slots than there are clients.
func TestWhereSlotsAre(t *testing.T) {
	for _, shape := range []store.Shape{{Blocks: 2, Size: 1, Clients: 2, Slots: 4}, {Blocks: 5, Size: 1, Clients: 4, Slots: 3}, {Blocks: 32, Size: 16, Clients: 4, Slots: 4}} {
		d, s := fresh(t, shape)
		want := held(t, d)
		data := strings.Repeat("x", shape.Size)
		for client := range shape.Clients {
			for slot := range shape.Slots {
				boot := 10*client + slot + 1
				checkWrite(t, s, api.Write{Client: client, Slot: slot, Boot: boot, Op: 9, Data: []byte(data)}, api.OK, api.OK)
				want[1] = numbers(client*shape.Slots+slot+1) + text(data)
				want[1+shape.Blocks+shape.Slots*client+slot] = numbers(boot, 9, 0)
				checkHeld(t, d, want...)
			}
		}
	}
}

// steps are what a write leaves behind, sector by sector that is written.
func steps() (w api.Write, l [][]string) {
	w = api.Write{Client: 1, Slot: 0, Boot: 300, Op: 2, Block: 1, Data: []byte("cd")}
	journal := "\x01\x00\xac\x02\x02\x01\x02\x02cd"
	return w, [][]string{
		{"", "", "\x01\x02ab", "", "\x01\x01\x00", "", "", ""},
		{journal, "", "\x01\x02ab", "", "\x01\x01\x00", "", "", ""},
		{journal, "", "\x02\x02cd", "", "\x01\x01\x00", "", "", ""},
		{journal, "", "\x02\x02cd", "", "\x01\x01\x00", "", "\xac\x02\x02\x00", ""},
		{"", "", "\x02\x02cd", "", "\x01\x01\x00", "", "\xac\x02\x02\x00", ""},
	}
}

// TestStepsOfAWrite: which sectors are written, in which order; the fuse tells how many.
func TestStepsOfAWrite(t *testing.T) {
	w, want := steps()
	for n, l := range want {
		d, s := fresh(t, plain)
		checkWrite(t, s, write(1, 1, "ab"), api.OK, api.OK)
		d.Fuse(n)
		done := n == len(want)-1
		if code, e := s.Write(w); code != api.OK || (e == api.OK) != done || !done && e != api.ErrDown {
			t.Errorf("fuse %d: %d %d", n, int(code), int(e))
		}
		if d.Down() == done {
			t.Errorf("fuse %d: down %v", n, d.Down())
		}
		checkHeld(t, d, l...)
	}
}

// TestStepsOfOpen: what the journal has is done once more, wherever it was cut off, by three sectors.
func TestStepsOfOpen(t *testing.T) {
	w, want := steps()
	for cut := 1; cut <= 3; cut++ {
		for n := range 4 {
			d, s := fresh(t, plain)
			checkWrite(t, s, write(1, 1, "ab"), api.OK, api.OK)
			d.Fuse(cut)
			checkWrite(t, s, w, api.OK, api.ErrDown)
			checkOpen(t, d, plain, api.ErrDown)
			d.Up()
			d.Fuse(n)
			wantError := api.ErrDown
			if n == 3 {
				wantError = api.OK
			}
			checkOpen(t, d, plain, wantError)
			if d.Down() != (n < 3) {
				t.Errorf("cut off behind %d, fuse %d: down %v", cut, n, d.Down())
			}
			checkHeld(t, d, want[max(cut, n+1)]...)
		}
	}
}

// TestStepsOfTheLastVersion: the slot's sector alone is written; where that can't be, nothing is.
func TestStepsOfTheLastVersion(t *testing.T) {
	d, s := fresh(t, plain)
	last := numbers(1000) + text("ab")
	put(t, d, 2, last)
	d.Fuse(0)
	checkWrite(t, s, write(1, 1, "cd"), api.OK, api.ErrDown)
	d.Up()
	checkHeld(t, d, "", "", last, "", "", "", "", "")
	d.Fuse(1)
	checkWrite(t, s, write(1, 1, "cd"), api.ErrLast, api.OK)
	if d.Down() {
		t.Error("more than one sector was written")
	}
	checkHeld(t, d, "", "", last, "", "\x01\x01\x0b", "", "", "")
	checkWrite(t, s, write(2, 1, "cd"), api.OK, api.ErrDown)
	checkHeld(t, d, "", "", last, "", "\x01\x01\x0b", "", "", "")
}

// TestOpenReadsWhatIsThere: blocks and slots at their bounds.
func TestOpenReadsWhatIsThere(t *testing.T) {
	d, _ := fresh(t, plain)
	put(t, d, 1, numbers(999)+text("ab"))
	put(t, d, 2, numbers(1000)+text("cd"))
	put(t, d, 3, numbers(0)+text("ef"))
	put(t, d, 4, numbers(great, great, 16))
	put(t, d, 5, numbers(1, 1, 9))
	put(t, d, 6, numbers(0, 0, 7))
	put(t, d, 7, numbers(0, 5, 7))
	s := open(t, d, plain)
	checkRead(t, s, 0, "ab", 999)
	checkRead(t, s, 1, "cd", 1000)
	checkRead(t, s, 2, "ef", 0)
	checkRefused(t, d, s, api.Write{Boot: great, Op: great, Block: 1, Data: []byte("zz")}, api.ErrWait, api.OK)
	checkRefused(t, d, s, api.Write{Boot: great, Op: great - 1, Block: 1, Data: []byte("zz")}, api.OK, api.ErrOld)
	checkRefused(t, d, s, api.Write{Slot: 1, Boot: 1, Op: 1, Block: 1, Data: []byte("zz")}, api.ErrBlock, api.OK)
	checkWrite(t, s, api.Write{Client: 1, Boot: 1, Op: 1, Block: 1, Data: []byte("zz")}, api.ErrLast, api.OK)
	checkWrite(t, s, api.Write{Client: 1, Slot: 1, Boot: 1, Op: 1, Block: 0, Data: []byte("zz")}, api.OK, api.OK)
	checkWrite(t, s, api.Write{Client: 1, Slot: 1, Boot: 1, Op: 2, Block: 0, Data: []byte("yy")}, api.ErrLast, api.OK)
	checkRead(t, s, 0, "zz", 1000)
}

// notBlocks are what no block of two bytes has, but which is near to that.
func notBlocks() []string {
	return []string{
		"", "\x01", "\x01\x02", "\x01\x02a", "\x01\x02abc", "\x01\x02ab\x00", "\x01\x02ab\x01\x02ab",
		"\x01\x01a", "\x01\x03abc", "\x01\x00", "\x01\x82\x00ab", "\x81\x00\x02ab", "\x80", "\x81",
		"\xff\xff\xff\xff\xff\xff\xff\xff\xff\x01\x02ab",
		numbers(1001) + text("ab"), numbers(1002) + text("ab"), numbers(math.MaxInt) + text("ab"),
		numbers(1) + text(strings.Repeat("a", 16)), numbers(1) + text(strings.Repeat("a", 17)), numbers(1) + text(strings.Repeat("a", 62)),
		numbers(1, math.MaxInt) + "ab", strings.Repeat("\x00", 64), strings.Repeat("\xff", 64),
	}
}

// TestWhatIsNoBlockIsTheBeginning: read so, and written so.
func TestWhatIsNoBlockIsTheBeginning(t *testing.T) {
	for _, is := range notBlocks() {
		d, _ := fresh(t, plain)
		put(t, d, 1, numbers(7)+text("kk"))
		put(t, d, 2, is)
		was := held(t, d)
		s := open(t, d, plain)
		checkRead(t, s, 1, "\x00\x00", 0)
		checkRead(t, s, 0, "kk", 7)
		checkHeld(t, d, was...)
		checkWrite(t, s, write(1, 1, "cd"), api.OK, api.OK)
		checkRead(t, s, 1, "cd", 1)
		checkRead(t, s, 0, "kk", 7)
	}
}

// TestABlocksSizeIsTheShapes: the same sector is a block for one size alone.
func TestABlocksSizeIsTheShapes(t *testing.T) {
	for size := 1; size <= 16; size++ {
		for n := range 18 {
			shape := store.Shape{Blocks: 1, Size: size, Clients: 1, Slots: 1}
			d, s := fresh(t, shape)
			put(t, d, 1, numbers(3)+text(strings.Repeat("a", n)))
			want, version := string(make([]byte, size)), 0
			if n == size {
				want, version = strings.Repeat("a", n), 3
			}
			checkRead(t, s, 0, want, version)
		}
	}
}

// TestWhatIsNoSlotIsTheBeginning: whatever it tells of a last write, each write is newer.
func TestWhatIsNoSlotIsTheBeginning(t *testing.T) {
	for _, is := range []string{
		"", "\x05", "\x05\x05", "\x05\x05\x80", "\x05\x05\x80\x00", "\x05\x85\x00\x00", "\x85\x00\x05\x00", "\x05\x05\x00\x00", "\x05\x05\x00\x05\x05\x00",
		"\xff\xff\xff\xff\xff\xff\xff\xff\xff\x01\x00", "\x05\x05\x11",
		numbers(great+1, 5, 0), numbers(5, great+1, 0), numbers(5, 5, 17), numbers(5, 5, 18), numbers(5, 5, 128), numbers(5, 5, 1<<32),
		numbers(math.MaxInt, 5, 0), numbers(5, math.MaxInt, 0), numbers(5, 5, math.MaxInt), numbers(great+1, great+1, 17),
		strings.Repeat("\x01", 64), strings.Repeat("\xff", 64),
	} {
		for _, w := range []api.Write{{Boot: 1, Op: 1}, {Boot: 5, Op: 5}, {Boot: 5, Op: 4}} {
			d, _ := fresh(t, plain)
			put(t, d, 7, is)
			put(t, d, 6, numbers(9, 9, 2))
			was := held(t, d)
			s := open(t, d, plain)
			checkHeld(t, d, was...)
			w.Client, w.Slot, w.Data = 1, 1, []byte("ab")
			checkWrite(t, s, w, api.OK, api.OK)
			checkRead(t, s, 0, "ab", 1)
			checkRefused(t, d, s, w, api.OK, api.OK)
			w.Boot, w.Op, w.Slot = 9, 9, 0
			checkRefused(t, d, s, w, api.ErrForm, api.OK)
		}
	}
}

// notJournals are what no write has that the store of the plain shape could have been cut off in.
func notJournals() []string {
	return []string{
		"", "\x00", "\x01\x01\x05\x05\x02\x03", "\x01\x01\x05\x05\x02\x03\x02", "\x01\x01\x05\x05\x02\x03\x02c", "\x01\x01\x05\x05\x02\x03\x02cd\x00",
		"\x01\x01\x05\x05\x02\x03\x02cd\x01\x01\x05\x05\x02\x03\x02cd",
		"\x81\x00\x01\x05\x05\x02\x03\x02cd", "\x01\x01\x05\x05\x02\x83\x00\x02cd", "\x01\x01\x05\x05\x02\x03\x82\x00cd",
		numbers(2, 1, 5, 5, 2, 3) + text("cd"), numbers(3, 0, 5, 5, 2, 3) + text("cd"), numbers(4, 0, 5, 5, 2, 3) + text("cd"),
		numbers(0, 2, 5, 5, 2, 3) + text("cd"), numbers(0, 3, 5, 5, 2, 3) + text("cd"), numbers(1, 4, 5, 5, 2, 3) + text("cd"),
		numbers(1, 1, 5, 5, 3, 3) + text("cd"), numbers(1, 1, 5, 5, 4, 3) + text("cd"), numbers(1, 1, 5, 5, 32, 3) + text("cd"),
		numbers(math.MaxInt, 1, 5, 5, 2, 3) + text("cd"), numbers(1, math.MaxInt, 5, 5, 2, 3) + text("cd"), numbers(1, 1, 5, 5, math.MaxInt, 3) + text("cd"),
		numbers(1, 1, 5, 5, 2, 3) + text(""), numbers(1, 1, 5, 5, 2, 3) + text("c"), numbers(1, 1, 5, 5, 2, 3) + text("cde"),
		numbers(1, 1, 5, 5, 2, 3) + text(strings.Repeat("c", 16)), numbers(1, 1, 5, 5, 2, 3) + text(strings.Repeat("c", 17)), numbers(1, 1, 5, 5, 2, 3, math.MaxInt) + "cd",
		strings.Repeat("\x00", 64), strings.Repeat("\xff", 64),
	}
}

// TestWhatIsNoJournalIsNotDone: nothing is written, so a fuse stays as it was; and what is written behind that is done.
func TestWhatIsNoJournalIsNotDone(t *testing.T) {
	for _, is := range notJournals() {
		d, first := fresh(t, plain)
		checkWrite(t, first, write(1, 2, "ab"), api.OK, api.OK)
		put(t, d, 0, is)
		was := held(t, d)
		d.Fuse(0)
		s := open(t, d, plain)
		if d.Down() {
			t.Errorf("%q: something was written", is)
		}
		d.Fuse(-1)
		checkHeld(t, d, was...)
		checkRead(t, s, 2, "ab", 1)
		checkWrite(t, s, write(2, 2, "cd"), api.OK, api.OK)
		checkRead(t, s, 2, "cd", 2)
		if b, e := d.Read(0); len(b) != 0 || e != api.OK {
			t.Errorf("%q: the journal is %q", is, b)
		}
	}
}

// TestWhatTheJournalHasIsDone: for each block and slot, whatever they were.
func TestWhatTheJournalHasIsDone(t *testing.T) {
	for _, before := range []string{"", "\x01\x02zz", "\xff"} {
		for block := range plain.Blocks {
			for client := range plain.Clients {
				for slot := range plain.Slots {
					d, _ := fresh(t, plain)
					for at := 1; at < d.Len(); at++ {
						put(t, d, at, before)
					}
					want := held(t, d)
					put(t, d, 0, numbers(client, slot, 200, great, block, 1000)+text("cd"))
					want[1+block] = numbers(1000) + text("cd")
					want[4+2*client+slot] = numbers(200, great, 0)
					s := open(t, d, plain)
					checkHeld(t, d, want...)
					checkRead(t, s, block, "cd", 1000)
					checkRefused(t, d, s, api.Write{Client: client, Slot: slot, Boot: 200, Op: great, Block: block, Data: []byte("yy")}, api.OK, api.OK)
				}
			}
		}
	}
}

// TestAJournalForAnotherShape: a store of a smaller shape leaves it alone, so it is there for the one that it is for.
func TestAJournalForAnotherShape(t *testing.T) {
	w := api.Write{Client: 1, Slot: 1, Boot: 5, Op: 5, Block: 2, Data: []byte("cd")}
	for _, other := range []store.Shape{{2, 2, 2, 2}, {3, 1, 2, 2}, {3, 3, 2, 2}, {3, 2, 1, 2}, {3, 2, 2, 1}} {
		d, s := fresh(t, plain)
		d.Fuse(1)
		checkWrite(t, s, w, api.OK, api.ErrDown)
		d.Up()
		was := held(t, d)
		d.Fuse(0)
		open(t, d, other)
		d.Fuse(-1)
		checkHeld(t, d, was...)
		checkRead(t, open(t, d, plain), 2, "cd", 1)
	}
}

// TestTheWidestWrite: what the journal has of it fits a sector.
func TestTheWidestWrite(t *testing.T) {
	shape := store.Shape{Blocks: 32, Size: 16, Clients: 4, Slots: 4}
	data := "0123456789abcdef"
	w := api.Write{Client: 3, Slot: 3, Boot: great, Op: great, Block: 31, Data: []byte(data)}
	for n := range 5 {
		d, s := fresh(t, shape)
		put(t, d, 32, numbers(999)+text(strings.Repeat("z", 16)))
		d.Fuse(n)
		s.Write(w)
		d.Up()
		again := open(t, d, shape)
		if n == 0 {
			checkRead(t, again, 31, strings.Repeat("z", 16), 999)
			continue
		}
		checkRead(t, again, 31, data, 1000)
		checkRefused(t, d, again, w, api.OK, api.OK)
	}
}
