package conf_test

import (
	"bytes"
	"reflect"
	"slices"
	"strings"
	"testing"

	"gradine/api"
	"gradine/conf"
	"gradine/raw"
)

const (
	numbers = 17 // with how many hints there are
	endless = "\xff\xff\xff\xff\xff\xff\xff\xff\xff"
	huge    = "\xff\xff\xff\xff\xff\xff\xff\xff\x7f"
)

// two is a configuration with two hints, each number of which is another one as far as that can be.
func two() api.Config {
	return parted(api.Hint{From: 11, Size: 8, Often: 300, Loop: true}, api.Hint{From: 0, Size: 10, Often: maxOften})
}

// twosBytes are two's numbers, one text each, and then each hint's numbers and its truth.
func twosBytes() []string {
	return strings.Split("02 03 14 04 02 02 01 02 01 05 06 07 03 32 08 09 02 0b 08 ac02 01 00 0a ffffffff07 00", " ")
}

// unhex makes bytes of the pieces' pairs of digits.
func unhex(pieces []string) string {
	const digits = "0123456789abcdef"
	s := strings.Join(pieces, "")
	var b []byte
	for i := 0; i < len(s); i += 2 {
		b = append(b, byte(strings.IndexByte(digits, s[i])<<4|strings.IndexByte(digits, s[i+1])))
	}
	return string(b)
}

func put(t *testing.T, c api.Config) []byte {
	t.Helper()
	b, e := conf.Put(c)
	if e != api.OK {
		t.Fatalf("Put(%v): %d", c, int(e))
	}
	return b
}

// same tells whether both are one configuration; nil and empty lists are one.
func same(a, b api.Config) bool {
	hints := slices.Equal(a.Hints, b.Hints)
	a.Hints, b.Hints = nil, nil
	return hints && reflect.DeepEqual(a, b)
}

// checkGet tells where b isn't got with that error, or something is answered beside it.
func checkGet(t *testing.T, name, b string, want api.Errno) {
	t.Helper()
	c, e := conf.Get([]byte(b))
	if e != want {
		t.Errorf("%s: %x: %d, not %d", name, b, int(e), int(want))
	}
	if e != api.OK && !same(c, api.Config{}) {
		t.Errorf("%s: %x: %v beside %d", name, b, c, int(e))
	}
}

func TestPut(t *testing.T) {
	for _, x := range []struct {
		c    api.Config
		want string
	}{
		{least(), "\x01\x01\x01\x01\x01\x00\x01\x01\x01\x01\x01\x01\x01\x01\x00\x01\x00"},
		{parted(), "\x02\x03\x14\x04\x02\x02\x01\x02\x01\x05\x06\x07\x03\x32\x08\x09\x00"},
		{parted([]api.Hint{}...), "\x02\x03\x14\x04\x02\x02\x01\x02\x01\x05\x06\x07\x03\x32\x08\x09\x00"},
		{parted(api.Hint{From: 3, Size: 2, Often: 127}), "\x02\x03\x14\x04\x02\x02\x01\x02\x01\x05\x06\x07\x03\x32\x08\x09\x01\x03\x02\x7f\x00"},
		{parted(api.Hint{From: 3, Size: 2, Often: 128, Loop: true}), "\x02\x03\x14\x04\x02\x02\x01\x02\x01\x05\x06\x07\x03\x32\x08\x09\x01\x03\x02\x80\x01\x01"},
		{two(), unhex(twosBytes())},
	} {
		if b := put(t, x.c); string(b) != x.want {
			t.Errorf("%v: %x, not %x", x.c, b, x.want)
		}
	}
}

// TestPutOfEachNumber: a number that is another one is another byte at its place, and nowhere else.
func TestPutOfEachNumber(t *testing.T) {
	for i, f := range fields() {
		for n := f.least; n <= f.most; n++ {
			c := parted()
			if f.name == "Mode" {
				c.Place = api.PAll
			}
			want := put(t, c)
			*f.at(&c) = n
			want[i] = byte(n)
			if b := put(t, c); !bytes.Equal(b, want) {
				t.Errorf("%s %d: %x, not %x", f.name, n, b, want)
			}
		}
	}
}

// wrongs are configurations that may not be, each in one way.
func wrongs() []api.Config {
	l := []api.Config{{}}
	for _, f := range fields() {
		for _, n := range []int{f.least - 1, f.most + 1} {
			c := parted()
			*f.at(&c) = n
			l = append(l, c)
		}
	}
	for _, mode := range []int{api.MInclusive, api.MNine} {
		c := parted()
		c.Mode = mode
		l = append(l, c)
		c.Place = api.PUni
		l = append(l, c)
	}
	for _, place := range []int{api.PAll, api.PUni} {
		c := two()
		c.Place = place
		l = append(l, c)
	}
	for _, h := range []api.Hint{{}, {From: -1, Size: 2}, {From: 2, Size: 0}, {From: 19, Size: 2}, {From: 0, Size: 1, Often: -1}, {From: 0, Size: 1, Often: maxOften + 1}} {
		l = append(l, parted(h), parted(api.Hint{From: 5, Size: 5}, h))
	}
	return append(l, parted(singles(9)...), parted(api.Hint{From: 2, Size: 3}, api.Hint{From: 4, Size: 1}))
}

func TestPutOfWrong(t *testing.T) {
	for _, c := range wrongs() {
		if b, e := conf.Put(c); len(b) != 0 || e != api.ErrArg {
			t.Errorf("%v: %x %d", c, b, int(e))
		}
	}
}

// plain are c's bytes, whether it is right or not; a number below 0 counts as 0.
func plain(c api.Config) []byte {
	var b []byte
	for _, f := range fields() {
		b = raw.Put(b, *f.at(&c))
	}
	b = raw.Put(b, len(c.Hints))
	for _, h := range c.Hints {
		b = raw.PutTruth(raw.Put(raw.Put(raw.Put(b, h.From), h.Size), h.Often), h.Loop)
	}
	return b
}

func TestGetOfWrong(t *testing.T) {
	for _, c := range wrongs() {
		b := plain(c)
		want := api.ErrArg
		if len(c.Hints) > 8 {
			want = api.ErrFull
		}
		if conf.Right(belowIsZero(c)) {
			want = api.OK
		}
		checkGet(t, "wrong", string(b), want)
	}
}

// belowIsZero is c as its bytes tell it.
func belowIsZero(c api.Config) api.Config {
	for _, f := range fields() {
		*f.at(&c) = max(*f.at(&c), 0)
	}
	c.Hints = slices.Clone(c.Hints)
	for i, h := range c.Hints {
		c.Hints[i] = api.Hint{From: max(h.From, 0), Size: max(h.Size, 0), Often: max(h.Often, 0), Loop: h.Loop}
	}
	return c
}

func TestGet(t *testing.T) {
	for _, c := range []api.Config{least(), parted(), two(), parted(singles(8)...)} {
		got, e := conf.Get(plain(c))
		if e != api.OK || !same(got, c) {
			t.Errorf("%v: %v %d", c, got, int(e))
		}
	}
}

// TestGetOfEachPiece: as each is met, the first fault is told, whatever is behind it.
func TestGetOfEachPiece(t *testing.T) {
	pieces := twosBytes()
	for i := range pieces {
		ahead := unhex(pieces[:i])
		rest := unhex(pieces[i+1:])
		truth := i == 20 || i == 24
		checkGet(t, "the bytes end", ahead, api.ErrShort)
		if truth {
			checkGet(t, "no truth", ahead+"\x02"+rest, api.ErrForm)
			checkGet(t, "no truth, and the end", ahead+"\x80", api.ErrForm)
			continue
		}
		checkGet(t, "the number ends within", ahead+"\x80", api.ErrShort)
		checkGet(t, "it goes on to the end", ahead+endless[:8], api.ErrShort)
		checkGet(t, "it goes on for ever", ahead+endless, api.ErrForm)
		checkGet(t, "it goes on for ever, and more", ahead+endless+rest, api.ErrForm)
		checkGet(t, "it isn't as short as can be", ahead+"\x80\x00"+rest, api.ErrForm)
		checkGet(t, "it isn't as short as can be, and the end", ahead+"\x81\x00", api.ErrForm)
	}
}

// TestGetTellsOfBytesAheadOfSense: numbers that may not be are told last of all.
func TestGetTellsOfBytesAheadOfSense(t *testing.T) {
	pieces := twosBytes()
	for i := range pieces {
		if i == 16 || i == 20 || i == 24 {
			continue // how many there are, and the truths
		}
		wrong := slices.Clone(pieces)
		wrong[i] = "ffffffff08"
		b := unhex(wrong)
		checkGet(t, "a number beyond its bounds", b, api.ErrArg)
		checkGet(t, "it, and the end within", b[:len(b)-1], api.ErrShort)
		checkGet(t, "it, and no truth", b[:len(b)-1]+"\x02", api.ErrForm)
		checkGet(t, "it, and bytes left", b+"\x00", api.ErrForm)
		wrong[i] = "ffffffffffffffff7f"
		checkGet(t, "a number as great as can be", unhex(wrong), api.ErrArg)
		if i < 16 {
			wrong[16] = "09"
			checkGet(t, "it, and too many hints", unhex(wrong), api.ErrFull)
		}
	}
}

func TestGetOfTooManyHints(t *testing.T) {
	ahead := unhex(twosBytes()[:16])
	for _, n := range []string{"\x09", "\x0a", "\x7f", "\x80\x01", huge} {
		checkGet(t, "and the end", ahead+n, api.ErrFull)
		checkGet(t, "and bytes that are no hints", ahead+n+endless, api.ErrFull)
		checkGet(t, "and nine hints", ahead+n+strings.Repeat("\x00\x01\x00\x00", 9), api.ErrFull)
	}
	checkGet(t, "8, and the end", ahead+"\x08", api.ErrShort)
	checkGet(t, "8 of one block", ahead+"\x08"+strings.Repeat("\x00\x01\x00\x00", 8), api.ErrArg)
	checkGet(t, "8, and 9 are there", ahead+"\x08"+strings.Repeat("\x00\x01\x00\x00", 9), api.ErrForm)
	checkGet(t, "7, and 8 are there", ahead+"\x07"+strings.Repeat("\x00\x01\x00\x00", 8), api.ErrForm)
}

func TestGetOfBytesLeft(t *testing.T) {
	for _, c := range []api.Config{least(), parted(), two()} {
		b := string(plain(c))
		for _, more := range []string{"\x00", "\x01", "\x80", endless, b} {
			checkGet(t, "bytes left", b+more, api.ErrForm)
		}
	}
	checkGet(t, "nothing", "", api.ErrShort)
	checkGet(t, "noughts", strings.Repeat("\x00", numbers), api.ErrArg)
	checkGet(t, "one nought less", strings.Repeat("\x00", numbers-1), api.ErrShort)
	checkGet(t, "one nought more", strings.Repeat("\x00", numbers+1), api.ErrForm)
}

// all are right configurations: each number at each value, and hints of all kinds.
func all() []api.Config {
	var l []api.Config
	for _, f := range fields() {
		for n := f.least; n <= f.most; n++ {
			for _, c := range []api.Config{parted(), two(), least()} {
				*f.at(&c) = n
				if conf.Right(c) {
					l = append(l, c)
				}
			}
		}
	}
	for _, a := range ranges(20) {
		l = append(l, parted(a))
		for _, often := range []int{0, 1, 127, 128, 1<<14 - 1, 1 << 14, maxOften - 1, maxOften} {
			l = append(l, parted(api.Hint{From: a.From, Size: a.Size, Often: often, Loop: !a.Loop}))
		}
		if a.From > 0 {
			l = append(l, parted(a, api.Hint{Size: a.From, Often: 9, Loop: true}))
		}
	}
	for n := range 9 {
		l = append(l, parted(singles(n)...))
		back := singles(n)
		slices.Reverse(back)
		l = append(l, parted(back...))
	}
	return l
}

func TestWhatIsPutIsGot(t *testing.T) {
	seen := map[string]api.Config{}
	for _, c := range all() {
		b := put(t, c)
		got, e := conf.Get(b)
		if e != api.OK || !same(got, c) {
			t.Errorf("%v was put, %v %d is got", c, got, int(e))
		}
		if was, ok := seen[string(b)]; ok && !same(was, c) {
			t.Errorf("%v and %v have one text", was, c)
		}
		seen[string(b)] = c
	}
}

// TestWhatIsGotIsPut: there are no other bytes of a configuration than those that are put.
func TestWhatIsGotIsPut(t *testing.T) {
	whole := plain(two())
	for i := range whole {
		for n := range 256 {
			b := slices.Clone(whole)
			b[i] = byte(n)
			c, e := conf.Get(b)
			if e != api.OK {
				continue
			}
			if again := put(t, c); !bytes.Equal(again, b) {
				t.Errorf("%x is got, %x is put", b, again)
			}
		}
	}
}

func TestPutSharesNothing(t *testing.T) {
	hints := append(two().Hints, make([]api.Hint, 3)...)
	was := slices.Clone(hints)
	c := parted(hints[:2]...)
	first, second := put(t, c), put(t, c)
	want := string(second)
	if string(first) != want || !slices.Equal(hints, was) {
		t.Errorf("%x and %x of %v", first, second, hints)
	}
	first = first[:cap(first)]
	clear(first)
	clear(hints)
	if string(second) != want || string(put(t, two())) != want {
		t.Errorf("an answer changed to %x", second)
	}
}

func TestGetSharesNothing(t *testing.T) {
	whole := plain(two())
	memory := append(slices.Clone(whole), bytes.Repeat([]byte{0xee}, 16)...)
	was := slices.Clone(memory)
	first, _ := conf.Get(memory[:len(whole)])
	second, e := conf.Get(memory[:len(whole)])
	if !bytes.Equal(memory, was) {
		t.Errorf("%x is %x now", was, memory)
	}
	clear(first.Hints[:cap(first.Hints)])
	clear(memory)
	if e != api.OK || !same(second, two()) {
		t.Errorf("an answer changed to %v %d", second, int(e))
	}
}

// TestSpareRoomIsNotRead: what is behind the bytes' end is neither read nor left.
func TestSpareRoomIsNotRead(t *testing.T) {
	whole := plain(two())
	for n := range whole {
		if _, e := conf.Get(whole[:n]); e != api.ErrShort {
			t.Errorf("%d bytes: %d", n, int(e))
		}
	}
	if _, e := conf.Get(append(whole, 0)[:len(whole)]); e != api.OK {
		t.Errorf("a byte of spare room: %d", int(e))
	}
}

func TestHintsThatAreNone(t *testing.T) {
	for _, c := range []api.Config{least(), parted()} {
		got, e := conf.Get(plain(c))
		if e != api.OK || len(got.Hints) != 0 {
			t.Errorf("%v %d", got.Hints, int(e))
		}
	}
}
