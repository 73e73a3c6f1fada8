package store

import (
	"gradine/api"
	"gradine/raw"
)

// reader reads what a sector holds, part by part, and goes on as long as nothing was wrong.
type reader struct {
	held []byte
	at   int
	e    api.Errno
}

// reader answers one of the sector at.
func (s *Store) reader(at int) *reader {
	held, e := s.disk.Read(at)
	return &reader{held: held, e: e}
}

// number answers the number that comes next, or 0 behind something wrong.
func (r *reader) number() int {
	var n int
	if r.e == api.OK {
		n, r.at, r.e = raw.Get(r.held, r.at)
	}
	return n
}

// text answers the text that comes next, or nothing behind something wrong.
func (r *reader) text() []byte {
	var t []byte
	if r.e == api.OK {
		t, r.at, r.e = raw.GetText(r.held, r.at, api.MaxSize)
	}
	return t
}

// ended tells whether nothing was wrong, and nothing is left.
func (r *reader) ended() bool {
	return r.e == api.OK && r.at == len(r.held)
}

// fill puts what next answers to these places, one by one.
func fill(next func() int, places ...*int) {
	for _, p := range places {
		*p = next()
	}
}

// block answers what a block's sector holds, or what a block begins with.
func (s *Store) block(block int) (version int, data []byte) {
	r := s.reader(s.shape.blockAt(block))
	fill(r.number, &version)
	data = r.text()
	if !r.ended() || version > api.MaxVersion || len(data) != s.shape.Size {
		return 0, make([]byte, s.shape.Size)
	}
	return version, data
}

// last answers what a slot's sector holds of its last write, or what a slot begins with.
func (s *Store) last(client, slot int) (boot, op int, answer api.Errno) {
	var code int
	r := s.reader(s.shape.slotAt(client, slot))
	fill(r.number, &boot, &op, &code)
	if !r.ended() || boot > great || op > great || code > int(api.ErrWait) {
		return 0, 0, api.OK
	}
	return boot, op, api.Errno(code)
}

// pending answers the write that the journal has, if there is one, and it is one for this shape.
func (s *Store) pending() (n entry, is bool) {
	r := s.reader(journalAt)
	fill(r.number, &n.Client, &n.Slot, &n.Boot, &n.Op, &n.Block, &n.version)
	n.Data = r.text()
	is = r.ended() && s.shape.hasBlock(n.Block) && s.shape.hasSlot(n.Client, n.Slot) && len(n.Data) == s.shape.Size
	return n, is
}
