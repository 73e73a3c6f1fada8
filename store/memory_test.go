package store_test

import (
	"bytes"
	"slices"
	"testing"

	"gradine/api"
	"gradine/store"
)

// spoil writes all over b and its spare room.
func spoil(b []byte) {
	b = b[:cap(b)]
	for i := range b {
		b[i] = ^b[i]
	}
}

// TestDataIsNotKept: who changes it behind the write changes no block, and nothing of what is written next.
func TestDataIsNotKept(t *testing.T) {
	d, s := fresh(t, plain)
	data := append(make([]byte, 0, 50), "ab"...)
	checkWrite(t, s, api.Write{Boot: 1, Op: 1, Block: 1, Data: data}, api.OK, api.OK)
	spoil(data)
	checkRead(t, s, 1, "ab", 1)
	checkRead(t, open(t, d, plain), 1, "ab", 1)
	d.Fuse(1)
	data = append(data[:0], "cd"...)
	checkWrite(t, s, api.Write{Boot: 1, Op: 2, Block: 1, Data: data}, api.OK, api.ErrDown)
	spoil(data)
	d.Up()
	checkRead(t, open(t, d, plain), 1, "cd", 2)
}

// TestDataStays: no call changes it, nor the spare room around it.
func TestDataStays(t *testing.T) {
	all := []byte("0123456789")
	was := bytes.Clone(all)
	d, s := fresh(t, plain)
	for op, n := range []int{0, 1, 2, 2, 3, 2} {
		w := api.Write{Boot: 1, Op: op + 1, Block: 1, Data: all[4 : 4+n]}
		s.Write(w)
		s.Write(w)
		d.Fuse(op % 4)
		w.Op += 100
		s.Write(w)
		d.Up()
		s = open(t, d, plain)
		if b, _, _ := s.Read(1); len(b) > 0 {
			spoil(b)
		}
	}
	if !bytes.Equal(all, was) {
		t.Errorf("%q", all)
	}
}

// TestWhatIsReadIsNew: who changes an answer, spare room included, changes neither a block nor another answer.
func TestWhatIsReadIsNew(t *testing.T) {
	d, s := fresh(t, plain)
	checkWrite(t, s, write(1, 1, "ab"), api.OK, api.OK)
	for block, want := range []string{"\x00\x00", "ab"} {
		one, _, _ := s.Read(block)
		two, _, _ := s.Read(block)
		was := held(t, d)
		spoil(one)
		if string(two) != want || !slices.Equal(held(t, d), was) {
			t.Errorf("%q: another answer is %q", want, two)
		}
		checkRead(t, s, block, want, block)
		checkRead(t, s, 2, "\x00\x00", 0)
	}
}

// TestAnAnswerStays: what is written behind it doesn't change it.
func TestAnAnswerStays(t *testing.T) {
	_, s := fresh(t, plain)
	none, _, _ := s.Read(1)
	checkWrite(t, s, write(1, 1, "ab"), api.OK, api.OK)
	b, _, _ := s.Read(1)
	checkWrite(t, s, write(2, 1, "cd"), api.OK, api.OK)
	checkWrite(t, s, write(3, 0, "ef"), api.OK, api.OK)
	if string(none) != "\x00\x00" || string(b) != "ab" {
		t.Errorf("%q, %q", none, b)
	}
}

// TestWhatWasReadIsWritten: to another block, and to its own.
func TestWhatWasReadIsWritten(t *testing.T) {
	_, s := fresh(t, plain)
	checkWrite(t, s, write(1, 1, "ab"), api.OK, api.OK)
	b, _, _ := s.Read(1)
	checkWrite(t, s, api.Write{Boot: 1, Op: 2, Block: 2, Data: b}, api.OK, api.OK)
	checkWrite(t, s, api.Write{Boot: 1, Op: 3, Block: 1, Data: b}, api.OK, api.OK)
	spoil(b)
	checkRead(t, s, 1, "ab", 2)
	checkRead(t, s, 2, "ab", 1)
}

// TestReadsChangeNothing: whatever was asked, the sectors and what is told are the same.
func TestReadsChangeNothing(t *testing.T) {
	d, s := fresh(t, store.Shape{Blocks: 2, Size: 2, Clients: 1, Slots: 1})
	checkWrite(t, s, write(1, 1, "ab"), api.OK, api.OK)
	was := held(t, d)
	d.Fuse(0)
	for range 3 {
		for block := -2; block < 5; block++ {
			s.Read(block)
		}
		s.Down()
	}
	checkRead(t, s, 1, "ab", 1)
	if d.Down() || !slices.Equal(held(t, d), was) {
		t.Errorf("%q, not %q", held(t, d), was)
	}
}
