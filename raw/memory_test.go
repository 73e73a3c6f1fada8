package raw_test

import (
	"bytes"
	"testing"

	"gradine/api"
	"gradine/raw"
)

const mark = 0xee

// roomy is b with marked spare room behind it, and all of that memory.
func roomy(b string) (part, all []byte) {
	all = append([]byte(b), bytes.Repeat([]byte{mark}, 32)...)
	return all[:len(b)], all
}

// scribble writes over an answer, spare room included.
func scribble(b []byte) {
	b = b[:cap(b)]
	for i := range b {
		b[i] = 0x55
	}
}

// calls are all that answer bytes, by their names.
func calls() map[string]func(b, t []byte) []byte {
	return map[string]func(b, t []byte) []byte{
		"Put":      func(b, _ []byte) []byte { return raw.Put(b, 300) },
		"PutText":  raw.PutText,
		"PutTruth": func(b, _ []byte) []byte { return raw.PutTruth(b, true) },
		"GetText": func(b, _ []byte) []byte {
			s, _, _ := raw.GetText(b, 0, 9)
			return s
		},
	}
}

func TestWhatIsHandedInStays(t *testing.T) {
	for name, call := range calls() {
		b, allB := roomy("\x03abc")
		s, allS := roomy("xyz")
		wasB, wasS := string(allB), string(allS)
		answer := call(b, s)
		if string(allB) != wasB || string(allS) != wasS {
			t.Errorf("%s wrote to what was handed in", name)
		}
		if len(answer) == 0 {
			t.Fatalf("%s answered nothing", name)
		}
		scribble(answer)
		if string(allB) != wasB || string(allS) != wasS {
			t.Errorf("%s: the answer shares memory with what was handed in", name)
		}
	}
}

func TestAnswersAreOnTheirOwn(t *testing.T) {
	for name, call := range calls() {
		b, allB := roomy("\x03abc")
		s, allS := roomy("xyz")
		first := call(b, s)
		second := call(b, s)
		want := string(second)
		if string(first) != want {
			t.Errorf("%s: twice the same call, %x and %x", name, first, second)
		}
		scribble(first)
		scribble(allB)
		scribble(allS)
		if string(second) != want {
			t.Errorf("%s: an answer changed to %x", name, second)
		}
	}
}

func TestReadersChangeNothing(t *testing.T) {
	for _, s := range []string{"", "\x00", "\x01", "\x03abc", "\x80", "\x80\x00", "\xff\xff\xff\xff\xff\xff\xff\xff\xff"} {
		b, all := roomy(s)
		was := string(all)
		for at := -1; at < len(b)+2; at++ {
			raw.Get(b, at)
			raw.GetText(b, at, 2)
			raw.GetTruth(b, at)
		}
		if string(all) != was {
			t.Errorf("%x was changed to %x", was, all)
		}
	}
}

func TestSpareRoomIsNotRead(t *testing.T) {
	if n, _, e := raw.Get([]byte("\x80\x01")[:1], 0); e != api.ErrShort {
		t.Errorf("a number was read on in spare room: %d %d", n, int(e))
	}
	if s, _, e := raw.GetText([]byte("\x03abc")[:3], 0, 9); e != api.ErrShort {
		t.Errorf("a text was read on in spare room: %x %d", s, int(e))
	}
	if is, _, e := raw.GetTruth([]byte("\x01")[:0], 0); e != api.ErrShort {
		t.Errorf("a truth was read in spare room: %t %d", is, int(e))
	}
}

func TestTextOutOfTheSameMemory(t *testing.T) {
	all := []byte("abcdef")
	if b := raw.PutText(all[:1], all[1:4]); string(b) != "a\x03bcd" || string(all) != "abcdef" {
		t.Errorf("%x, of what is %x now", b, all)
	}
}
