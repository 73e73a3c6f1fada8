package frame_test

import (
	"bytes"
	"slices"
	"testing"

	"gradine/api"
	"gradine/frame"
)

// packets are right ones of each kind: with a load, with an empty one, with none.
func packets() []api.Packet {
	return []api.Packet{bare(), full(), {Mine: 1, Seq: 1}, {Mine: 1, Seq: 1, Load: []byte{}}, {Mine: great, Yours: great, Seq: great, Ack: great, Load: long(128)}}
}

// spoil writes all over b and its spare room.
func spoil(b []byte) {
	b = b[:cap(b)]
	for i := range b {
		b[i] = ^b[i]
	}
}

// roomy is b in new memory with marked spare room behind it, and all of that memory.
func roomy(b []byte) (part, all []byte) {
	all = append(slices.Clone(b), "spare room that stays"...)
	return all[:len(b)], all
}

// TestNothingHandedInIsChanged: nor the spare room behind it, be it right or wrong.
func TestNothingHandedInIsChanged(t *testing.T) {
	for _, p := range append(packets(), api.Packet{Load: long(3)}, api.Packet{Mine: 1, Seq: 1, Load: long(129)}) {
		var all []byte
		p.Load, all = roomy(p.Load)
		was := slices.Clone(all)
		frame.Right(p)
		frame.Put(p)
		if !bytes.Equal(all, was) {
			t.Errorf("%v: %x, not %x", p, all, was)
		}
	}
	for _, s := range []string{"", "\x00", "\x01", put(t, full()), put(t, bare()), summed("\x01\x00\x00"), summed("\x00\x00\x00\x00\x00")} {
		b, all := roomy([]byte(s))
		was := slices.Clone(all)
		frame.Get(b)
		if !bytes.Equal(all, was) {
			t.Errorf("%x: %x, not %x", s, all, was)
		}
	}
}

// TestWhatIsPutIsNew: it shares no memory with the load, or with another answer.
func TestWhatIsPutIsNew(t *testing.T) {
	for _, p := range packets() {
		p.Load = slices.Clone(p.Load)
		want := put(t, p)
		first, _ := frame.Put(p)
		second, _ := frame.Put(p)
		spoil(first)
		if string(second) != want || put(t, p) != want {
			t.Errorf("%v: an answer is shared", p)
		}
		spoil(p.Load)
		if string(second) != want {
			t.Errorf("%v: the load is kept", p)
		}
	}
}

// TestWhatIsGotIsNew: its load is neither within what was handed in, nor another answer's.
func TestWhatIsGotIsNew(t *testing.T) {
	for _, p := range packets() {
		b, all := roomy([]byte(put(t, p)))
		was := slices.Clone(all)
		first, _ := frame.Get(b)
		second, _ := frame.Get(b)
		spoil(first.Load)
		if !same(second, p) || !bytes.Equal(all, was) {
			t.Errorf("%v: an answer's load is shared: %v, %x of %x", p, second, all, was)
		}
		spoil(all)
		if !same(second, p) {
			t.Errorf("%v: the load is within what was handed in: %v", p, second)
		}
	}
}

// TestSpareRoomIsNotRead: where bytes end they end.
func TestSpareRoomIsNotRead(t *testing.T) {
	for _, p := range packets() {
		b, _ := roomy([]byte(put(t, p)))
		for i := range b {
			got, e := frame.Get(b[:i])
			want, we := told(slices.Clone(b[:i]))
			if e != we || !same(got, want) {
				t.Errorf("%x of %x: %v %d, not %v %d", b[:i], b, got, int(e), want, int(we))
			}
		}
		if got, e := frame.Get(b); e != api.OK || !same(got, p) {
			t.Errorf("%x: %v %d", b, got, int(e))
		}
	}
	all := []byte("abcdef")
	if b := put(t, api.Packet{Mine: 1, Seq: 1, Load: all[1:3]}); b != summed("\x01\x00\x01\x00\x02bc") || string(all) != "abcdef" {
		t.Errorf("%x, of what is %x now", b, all)
	}
}

// TestTheSameEachTime: what was asked ahead of it changes no answer.
func TestTheSameEachTime(t *testing.T) {
	for range 3 {
		for _, p := range packets() {
			checkRight(t, p, true)
			checkRight(t, api.Packet{Mine: great + 1, Load: p.Load}, false)
			checkGet(t, "a wrong one between", "\x01\x00\x00\x00\x00\x02", api.ErrForm)
			if got, e := frame.Get([]byte(put(t, p))); e != api.OK || !same(got, p) {
				t.Errorf("%v: %v %d", p, got, int(e))
			}
		}
	}
}
