package msg_test

import (
	"bytes"
	"slices"
	"strings"
	"testing"

	"gradine/api"
	"gradine/msg"
	"gradine/raw"
)

const (
	endless = "\xff\xff\xff\xff\xff\xff\xff\xff\xff"
	huge    = "\xff\xff\xff\xff\xff\xff\xff\xff\x7f"
)

// pieces are the bytes of filled(kind): the kind's, and those of each field that it names.
func pieces(kind int) []string {
	told := []string{"", "\x02", "\x03", "\xac\x02", "\xf0\xa2\x04", "\x1f", "\x04", "\x80\x01", "\x10", "\x01", "\x02xx"}
	l := []string{string([]byte{byte(kind)})}
	for _, f := range named()[kind] {
		l = append(l, told[f])
	}
	return l
}

func put(t *testing.T, m api.Msg) []byte {
	t.Helper()
	b, e := msg.Put(m)
	if e != api.OK {
		t.Fatalf("Put(%v): %d", m, int(e))
	}
	return b
}

// checkGet tells where b isn't got with that error, or something is answered beside it.
func checkGet(t *testing.T, name, b string, want api.Errno) {
	t.Helper()
	m, e := msg.Get([]byte(b))
	if e != want {
		t.Errorf("%s: %x: %d, not %d", name, b, int(e), int(want))
	}
	if e != api.OK && !same(m, api.Msg{}) {
		t.Errorf("%s: %x: %v beside %d", name, b, m, int(e))
	}
}

// told are messages and their bytes.
func told() map[string]api.Msg {
	return map[string]api.Msg{
		"\x07\x03\x05":                             {Kind: api.RInv, Block: 3, Round: 5},
		"\x01\x01\x02\x03\x04":                     {Kind: api.QRead, Slot: 1, Op: 2, Block: 3, Level: 4},
		"\x02\x01\x02\x03\x04\x03abc":              {Kind: api.QWrite, Slot: 1, Op: 2, Block: 3, Level: 4, Data: []byte("abc")},
		"\x03\x1f\x02\x01\x00":                     {Kind: api.QDemote, Block: 31, Level: 2, Data: []byte{0}},
		"\x04\x1f\x80\x80\x80\x80\x80\x20":         {Kind: api.QAck, Block: 31, Round: great},
		"\x05\x03\x7f\x1e\x01\x09\x00\x02\xff\x80": {Kind: api.RData, Slot: 3, Op: 127, Block: 30, Level: 1, Code: api.ErrBlock, Data: []byte("\xff\x80")},
		"\x05\x00\x00\x00\x00\x00\x01\x00":         {Kind: api.RData, Grant: true},
		"\x06\x02\x80\x01\x01\x00\x10\x01":         {Kind: api.RDone, Slot: 2, Op: 128, Block: 1, Code: api.ErrWait, Grant: true},
		"\x08\x07\x03":                             {Kind: api.ARead, Block: 7, Level: 3},
		"\x09\x01\x02\x09\x08\x07\x03\x01a":        {Kind: api.AWrite, Client: 1, Slot: 2, Boot: 9, Op: 8, Block: 7, Level: 3, Data: []byte("a")},
		"\x0a\x07\x03\x02ab":                       {Kind: api.ADemote, Block: 7, Level: 3, Data: []byte("ab")},
		"\x0b\x11":                                 {Kind: api.ADrop, Block: 17},
		"\x0c\x05\x0b\x00":                         {Kind: api.BData, Block: 5, Code: api.ErrLast},
		"\x0d\x03\x01\x81\x01\x82\x01\x05\x0c\x01": {Kind: api.BDone, Client: 3, Slot: 1, Boot: 129, Op: 130, Block: 5, Code: api.ErrOld, Grant: true},
		"\x0e\x00":                                 {Kind: api.BInv},
	}
}

func TestPut(t *testing.T) {
	for want, m := range told() {
		if b := put(t, m); string(b) != want {
			t.Errorf("%v: %x, not %x", m, b, want)
		}
	}
	for kind := api.QRead; kind <= api.BInv; kind++ {
		if b := put(t, filled(kind)); string(b) != strings.Join(pieces(kind), "") {
			t.Errorf("kind %d: %x, not %x", kind, b, strings.Join(pieces(kind), ""))
		}
		m := filled(kind)
		m.Data = []byte{}
		if b := put(t, m); !bytes.HasPrefix(put(t, filled(kind)), b[:len(b)-1]) {
			t.Errorf("kind %d: %x without bytes", kind, b)
		}
	}
}

// TestPutOfEachField: a field that is another one is another piece at its place, and nowhere else.
func TestPutOfEachField(t *testing.T) {
	for kind, l := range named() {
		for i, number := range l {
			f := fields()[number-1]
			for _, n := range []int{0, 1, 2, 3, 4, 15, 16, 30, 31, 63, 64, 127, 128, 16383, 16384, great - 1, great} {
				if n > f.most {
					continue
				}
				m := filled(kind)
				f.set(&m, n)
				want := pieces(kind)
				want[i+1] = string(raw.Put(nil, n))
				if number == 10 {
					want[i+1] += strings.Repeat("x", n)
				}
				if b := put(t, m); string(b) != strings.Join(want, "") {
					t.Errorf("kind %d, %s %d: %x, not %x", kind, f.name, n, b, strings.Join(want, ""))
				}
			}
		}
	}
}

// wrongs are messages that may not be, each in one way.
func wrongs() []api.Msg {
	var l []api.Msg
	for _, kind := range noKinds() {
		l = append(l, api.Msg{Kind: kind})
	}
	for kind := api.QRead; kind <= api.BInv; kind++ {
		for i, f := range fields() {
			numbers := wrongNumbers(i + 1)
			if !slices.Contains(named()[kind], i+1) {
				numbers = append(numbers, 1)
			}
			for _, n := range numbers {
				m := filled(kind)
				f.set(&m, n)
				l = append(l, m)
			}
		}
	}
	return l
}

func TestPutOfWrong(t *testing.T) {
	for _, m := range wrongs() {
		if b, e := msg.Put(m); len(b) != 0 || e != api.ErrArg {
			t.Errorf("%v: %x %d", m, b, int(e))
		}
	}
}

func TestGet(t *testing.T) {
	for b, want := range told() {
		if m, e := msg.Get([]byte(b)); e != api.OK || !same(m, want) {
			t.Errorf("%x: %v %d, not %v", b, m, int(e), want)
		}
	}
	for kind := api.QRead; kind <= api.BInv; kind++ {
		b := strings.Join(pieces(kind), "")
		if m, e := msg.Get([]byte(b)); e != api.OK || !same(m, filled(kind)) {
			t.Errorf("%x: %v %d, not %v", b, m, int(e), filled(kind))
		}
	}
}

func TestGetOfTheKind(t *testing.T) {
	if m, e := msg.Get(nil); e != api.ErrShort || !same(m, api.Msg{}) {
		t.Errorf("nil: %v %d", m, int(e))
	}
	checkGet(t, "nothing", "", api.ErrShort)
	checkGet(t, "the kind ends within", "\x81", api.ErrShort)
	checkGet(t, "it goes on to the end", endless[:8], api.ErrShort)
	checkGet(t, "it goes on for ever", endless, api.ErrForm)
	checkGet(t, "it isn't as short as can be", "\x8b\x00", api.ErrForm)
	checkGet(t, "it isn't as short as can be, a block behind it", "\x8b\x00\x05", api.ErrForm)
	for _, kind := range []string{"\x00", "\x0f", "\x10", "\x11", "\x40", "\x7f", "\x80\x01", "\x81\x02", "\x81\x80\x80\x80\x10", huge} {
		checkGet(t, "no such kind", kind, api.ErrForm)
		checkGet(t, "no such kind, and a number", kind+"\x05", api.ErrForm)
		checkGet(t, "no such kind, and a number that ends within", kind+"\x80", api.ErrForm)
		checkGet(t, "no such kind, and more", kind+"\x02\x03\x04\x01", api.ErrForm)
	}
}

// faults are pieces that tell no field of that number, and layer 1's errors of them at the end of the bytes.
func faults(number int) map[string]api.Errno {
	switch number {
	case 9:
		return map[string]api.Errno{"": api.ErrShort, "\x02": api.ErrForm, "\x80": api.ErrForm, "\x81": api.ErrForm, "\xff": api.ErrForm}
	case 10:
		return map[string]api.Errno{
			"": api.ErrShort, "\x80": api.ErrShort, endless[:8]: api.ErrShort, endless: api.ErrForm, "\x81\x00": api.ErrForm,
			"\x02": api.ErrShort, "\x02x": api.ErrShort, "\x40" + strings.Repeat("x", 63): api.ErrShort,
			"\x41": api.ErrFull, "\x41" + strings.Repeat("x", 65): api.ErrFull, "\x80\x01": api.ErrFull, "\xc1\x01": api.ErrFull, huge: api.ErrFull,
		}
	}
	return map[string]api.Errno{"": api.ErrShort, "\x80": api.ErrShort, endless[:8]: api.ErrShort, endless: api.ErrForm, "\x80\x00": api.ErrForm, "\x81\x00": api.ErrForm, "\x83\x80\x00": api.ErrForm}
}

// TestGetOfEachPiece: as each is met the first fault is told, whatever is behind it.
func TestGetOfEachPiece(t *testing.T) {
	for kind, l := range named() {
		for i, number := range l {
			ahead := strings.Join(pieces(kind)[:i+1], "")
			rest := strings.Join(pieces(kind)[i+2:], "")
			for piece, want := range faults(number) {
				checkGet(t, "a fault", ahead+piece, want)
				if want != api.ErrShort {
					checkGet(t, "a fault, and the rest", ahead+piece+rest, want)
					checkGet(t, "a fault, and another one", ahead+piece+endless, want)
				}
			}
		}
	}
}

// TestGetTellsOfBytesAheadOfSense: numbers that may not be are told last of all.
func TestGetTellsOfBytesAheadOfSense(t *testing.T) {
	for kind, l := range named() {
		for i, number := range l {
			if !isNumber(number) {
				continue
			}
			most := fields()[number-1].most
			for _, n := range []int{most + 1, most + 2, 2*most + 2, 1 << 32 << 10, 1<<63 - 1} {
				p := pieces(kind)
				p[i+1] = string(raw.Put(nil, n))
				checkGet(t, "beyond its bounds", strings.Join(p, ""), api.ErrArg)
				checkGet(t, "beyond its bounds, and a byte left", strings.Join(p, "")+"\x00", api.ErrForm)
				for k := i + 1; k < len(l); k++ {
					for piece, want := range faults(l[k]) {
						checkGet(t, "beyond its bounds, and a fault", strings.Join(p[:k+1], "")+piece, want)
					}
				}
			}
		}
	}
}

func TestGetOfBytesLeft(t *testing.T) {
	for kind := api.QRead; kind <= api.BInv; kind++ {
		b := strings.Join(pieces(kind), "")
		for _, left := range []string{"\x00", "\x01", "\xff", "\x00\x00", b, endless} {
			checkGet(t, "bytes left", b+left, api.ErrForm)
		}
	}
	checkGet(t, "a text's bytes left", "\x0a\x05\x01\x02abc", api.ErrForm)
}

// TestGetOfAnyText: the greatest text, each byte as it was.
func TestGetOfAnyText(t *testing.T) {
	for _, n := range []int{0, 1, 2, 63, 64} {
		for first := 0; first < 256; first += 16 {
			d := make([]byte, n)
			for i := range d {
				d[i] = byte(first + i)
			}
			b := append([]byte{api.ADemote, 9, 3, byte(n)}, d...)
			if m, e := msg.Get(b); e != api.OK || !same(m, api.Msg{Kind: api.ADemote, Block: 9, Level: 3, Data: d}) {
				t.Errorf("%x: %v %d", b, m, int(e))
			}
		}
	}
}

// TestPutIsGot: at the bounds of each field, too.
func TestPutIsGot(t *testing.T) {
	for kind, l := range named() {
		for _, number := range l {
			f := fields()[number-1]
			for _, start := range []api.Msg{{Kind: kind}, filled(kind)} {
				for _, n := range []int{0, 1, f.most / 3, f.most - 1, f.most} {
					m := start
					f.set(&m, n)
					if got, e := msg.Get(put(t, m)); e != api.OK || !same(got, m) {
						t.Errorf("%v: %v %d", m, got, int(e))
					}
				}
			}
		}
	}
}

// checkOneWay tells where b is a message's, but the message's bytes are others.
func checkOneWay(t *testing.T, b []byte) {
	t.Helper()
	m, e := msg.Get(b)
	if e != api.OK {
		return
	}
	if again, f := msg.Put(m); f != api.OK || !bytes.Equal(again, b) {
		t.Errorf("%x: %v, and again %x %d", b, m, again, int(f))
	}
}

// TestOneWay: what is got is put as it was.
func TestOneWay(t *testing.T) {
	for first := range 256 {
		for second := range 256 {
			checkOneWay(t, []byte{byte(first), byte(second)})
		}
	}
	for kind := range 16 {
		for i := range 1 << 16 {
			checkOneWay(t, []byte{byte(kind), byte(i >> 8), byte(i)})
		}
	}
	for kind := api.QRead; kind <= api.BInv; kind++ {
		b := put(t, filled(kind))
		for i := range b {
			checkOneWay(t, b[:i])
			for c := range 256 {
				other := slices.Clone(b)
				other[i] = byte(c)
				checkOneWay(t, other)
				checkOneWay(t, slices.Insert(slices.Clone(b), i, byte(c)))
			}
		}
	}
}

// TestNothingHandedInIsChanged: nor the spare room behind it.
func TestNothingHandedInIsChanged(t *testing.T) {
	for kind := api.QRead; kind <= api.BInv; kind++ {
		b := put(t, filled(kind))
		roomy := append(slices.Clone(b), "spare room that stays"...)
		before := slices.Clone(roomy)
		if m, e := msg.Get(roomy[:len(b)]); e != api.OK || !same(m, filled(kind)) || !bytes.Equal(roomy, before) {
			t.Errorf("kind %d: %v %d, and %x of %x", kind, m, int(e), roomy, before)
		}
		m := filled(kind)
		n := len(m.Data)
		text := append(m.Data, "spare"...)
		m.Data = text[:n]
		kept := slices.Clone(text)
		msg.Right(m)
		if again := put(t, m); !bytes.Equal(text, kept) || !bytes.Equal(again, b) || len(m.Data) != n {
			t.Errorf("kind %d: %x, and %q of %q", kind, again, text, kept)
		}
	}
}

// spoil writes all over b and its spare room.
func spoil(b []byte) {
	b = b[:cap(b)]
	for i := range b {
		b[i] = ^b[i]
	}
}

// TestWhatIsAnsweredIsNew: it shares no memory with what was handed in, or with another answer.
func TestWhatIsAnsweredIsNew(t *testing.T) {
	for kind := api.QRead; kind <= api.BInv; kind++ {
		m := filled(kind)
		b := put(t, m)
		want := slices.Clone(b)
		other := put(t, m)
		spoil(other)
		spoil(m.Data)
		if !bytes.Equal(b, want) || !bytes.Equal(put(t, filled(kind)), want) {
			t.Errorf("kind %d: Put's answer is shared", kind)
		}
		got, _ := msg.Get(b)
		second, _ := msg.Get(b)
		spoil(second.Data)
		spoil(b)
		if !same(got, filled(kind)) {
			t.Errorf("kind %d: Get's answer is shared", kind)
		}
		b = slices.Clone(want)
		got, _ = msg.Get(b)
		spoil(got.Data)
		if !bytes.Equal(b, want) {
			t.Errorf("kind %d: Get's answer is within what was handed in", kind)
		}
	}
}

// TestSpareRoomIsNotRead: where b ends it ends.
func TestSpareRoomIsNotRead(t *testing.T) {
	for kind := api.QRead; kind <= api.BInv; kind++ {
		b := put(t, filled(kind))
		for i := range b {
			if m, e := msg.Get(b[:i]); e != api.ErrShort || !same(m, api.Msg{}) {
				t.Errorf("%x of %x: %v %d", b[:i], b, m, int(e))
			}
		}
	}
}
