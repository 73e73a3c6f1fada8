package store_test

import (
	"math/rand"
	"testing"

	"gradine/api"
	"gradine/sector"
	"gradine/store"
)

// told is what a block is by the chapter's words.
type told struct {
	version int
	data    string
}

// ledger is what a store is by the chapter's words: its blocks, and of each slot the last write and its answer.
type ledger struct {
	blocks  [32]told
	last    [4][4]api.Write
	answers [4][4]api.Errno
}

// first is the ledger of a store that nothing was written to.
func first(shape store.Shape) *ledger {
	l := &ledger{}
	for block := range shape.Blocks {
		l.blocks[block].data = string(make([]byte, shape.Size))
	}
	return l
}

// write is what a right write is answered, and what it does, where the disk doesn't go down.
func (l *ledger) write(w api.Write) (code, e api.Errno) {
	last, answer, block := &l.last[w.Client][w.Slot], &l.answers[w.Client][w.Slot], &l.blocks[w.Block]
	switch {
	case w.Boot < last.Boot, w.Boot == last.Boot && w.Op < last.Op:
		return api.OK, api.ErrOld
	case w.Boot == last.Boot && w.Op == last.Op:
		return *answer, api.OK
	case block.version == api.MaxVersion:
		*last, *answer = w, api.ErrLast
		return api.ErrLast, api.OK
	}
	*last, *answer = w, api.OK
	*block = told{block.version + 1, string(w.Data)}
	return api.OK, api.OK
}

// agrees tells whether the store is what the ledger tells, its slots' last writes too; nothing is written for that.
func (l *ledger) agrees(d *sector.Disk, s *store.Store, shape store.Shape) bool {
	for block := range shape.Blocks {
		b, v, e := s.Read(block)
		if e != api.OK || (told{v, string(b)}) != l.blocks[block] {
			return false
		}
	}
	d.Fuse(0)
	defer d.Up()
	for client := range shape.Clients {
		for slot := range shape.Slots {
			if !l.agreesOf(s, shape, client, slot) {
				return false
			}
		}
	}
	return true
}

// agreesOf tells whether a slot's last write is the ledger's, where no sector can be written: that one is answered, one just ahead of it is old.
func (l *ledger) agreesOf(s *store.Store, shape store.Shape, client, slot int) bool {
	w := api.Write{Client: client, Slot: slot, Boot: 1, Op: 1, Data: make([]byte, shape.Size)}
	last := l.last[client][slot]
	if last.Boot == 0 {
		code, e := s.Write(w)
		return code == api.OK && e == api.ErrDown
	}
	w.Boot, w.Op = last.Boot, last.Op
	if code, e := s.Write(w); code != l.answers[client][slot] || e != api.OK {
		return false
	}
	if w.Op--; w.Op == 0 {
		return true
	}
	code, e := s.Write(w)
	return code == api.OK && e == api.ErrOld
}

// TestWhereverItGoesDown: behind some writes that were answered one is cut off behind each sector, by each slot on each block, and so is each opening that comes then.
func TestWhereverItGoesDown(t *testing.T) {
	shape := store.Shape{Blocks: 2, Size: 1, Clients: 2, Slots: 2}
	for cut := range 4 {
		for opening := range 4 {
			for who := range 8 {
				w := api.Write{Client: who & 1, Slot: who >> 1 & 1, Boot: 2, Op: 1, Block: who >> 2, Data: []byte("z")}
				d, l := written(t, shape)
				s := open(t, d, shape)
				d.Fuse(cut)
				checkWrite(t, s, w, api.OK, api.ErrDown)
				d.Up()
				if cut > 0 {
					l.write(w)
				}
				d.Fuse(opening)
				if s, e := store.Open(d, shape); (e == api.OK) != (cut == 0 || opening == 3) || (s == nil) != (e != api.OK) {
					t.Errorf("cut off behind %d, opened with fuse %d: %d", cut, opening, int(e))
				}
				d.Up()
				s = open(t, d, shape)
				if !l.agrees(d, s, shape) {
					t.Fatalf("cut off behind %d, opened with fuse %d, %v: %q", cut, opening, w, held(t, d))
				}
				code, _ := l.write(w)
				checkWrite(t, s, w, code, api.OK)
				if !l.agrees(d, s, shape) {
					t.Fatalf("again, cut off behind %d, opened with fuse %d, %v: %q", cut, opening, w, held(t, d))
				}
			}
		}
	}
}

// written is a disk that each slot wrote to, and what it is by the chapter's words.
func written(t *testing.T, shape store.Shape) (*sector.Disk, *ledger) {
	t.Helper()
	d, s := fresh(t, shape)
	l := first(shape)
	for client := range shape.Clients {
		for slot := range shape.Slots {
			w := api.Write{Client: client, Slot: slot, Boot: 1, Op: 3, Block: slot % shape.Blocks, Data: make([]byte, shape.Size)}
			w.Data[0] = byte('a' + client*shape.Slots + slot)
			l.write(w)
			checkWrite(t, s, w, api.OK, api.OK)
		}
	}
	return d, l
}

// player plays writes that are cut off, and openings that are, on one disk.
type player struct {
	t     *testing.T
	r     *rand.Rand
	shape store.Shape
	d     *sector.Disk
	s     *store.Store
	l     *ledger
}

// some is a write of any slot to any block: a newer one, the last one again, or an older one.
func (p *player) some() api.Write {
	w := api.Write{Client: p.r.Intn(p.shape.Clients), Slot: p.r.Intn(p.shape.Slots), Block: p.r.Intn(p.shape.Blocks), Data: make([]byte, p.shape.Size)}
	p.r.Read(w.Data)
	last := p.l.last[w.Client][w.Slot]
	w.Boot, w.Op = max(last.Boot, 1), last.Op+1
	switch p.r.Intn(10) {
	case 0:
		w.Op = max(last.Op, 1)
	case 1:
		w.Op = max(last.Op-p.r.Intn(3), 1)
	case 2:
		w.Boot, w.Op = max(last.Boot-p.r.Intn(2), 1), 1+p.r.Intn(300)
	case 3:
		w.Boot, w.Op = w.Boot+p.r.Intn(200), 1+p.r.Intn(3)
	}
	return w
}

// step does a write with some fuse; if it is cut off, the store is opened anew, and then it is what it was, or what it is behind the write.
func (p *player) step() {
	w, fuse := p.some(), p.r.Intn(7)-1
	p.d.Fuse(fuse)
	code, e := p.s.Write(w)
	before := *p.l
	wantCode, want := p.l.write(w)
	if e == api.ErrDown {
		if code != api.OK || !p.d.Down() || !p.s.Down() || fuse < 0 || fuse > 3 {
			p.t.Fatalf("%v with fuse %d: %d %d", w, fuse, int(code), int(e))
		}
		p.reopen()
		if fuse == 0 {
			*p.l = before
		}
	} else if code != wantCode || e != want {
		p.t.Fatalf("%v: %d %d, not %d %d", w, int(code), int(e), int(wantCode), int(want))
	}
	p.d.Up()
	if !p.l.agrees(p.d, p.s, p.shape) {
		p.t.Fatalf("behind %v with fuse %d: %q", w, fuse, held(p.t, p.d))
	}
}

// reopen opens the store again and again, till it isn't cut off in that.
func (p *player) reopen() {
	for {
		p.d.Up()
		p.d.Fuse(p.r.Intn(5) - 1)
		s, e := store.Open(p.d, p.shape)
		if e == api.OK {
			p.s = s
			return
		}
		if e != api.ErrDown || s != nil {
			p.t.Fatalf("Open: %d", int(e))
		}
	}
}

// TestManyWritesAndCrashes: long plays, of some shapes; one of few blocks, so that these come to their last version.
func TestManyWritesAndCrashes(t *testing.T) {
	for i, shape := range []store.Shape{plain, {Blocks: 1, Size: 1, Clients: 1, Slots: 1}, {Blocks: 2, Size: 16, Clients: 1, Slots: 4}, {Blocks: 32, Size: 3, Clients: 4, Slots: 4}, {Blocks: 4, Size: 5, Clients: 4, Slots: 1}} {
		d, s := fresh(t, shape)
		p := &player{t, rand.New(rand.NewSource(int64(i + 1))), shape, d, s, first(shape)}
		for range 5000 {
			p.step()
		}
	}
}

// TestTwoStoresOfOneDisk: what one writes the other one reads, as all of it is on the disk.
func TestTwoStoresOfOneDisk(t *testing.T) {
	d, a := fresh(t, plain)
	b := open(t, d, plain)
	checkWrite(t, a, write(1, 1, "ab"), api.OK, api.OK)
	checkRead(t, b, 1, "ab", 1)
	checkRefused(t, d, b, write(1, 2, "cd"), api.OK, api.OK)
	checkWrite(t, b, write(2, 1, "ef"), api.OK, api.OK)
	checkRead(t, a, 1, "ef", 2)
	checkRefused(t, d, a, write(1, 1, "ab"), api.OK, api.ErrOld)
}
