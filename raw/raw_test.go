package raw_test

import (
	"bytes"
	"math"
	"testing"

	"gradine/api"
	"gradine/raw"
)

// edges are numbers at which the count of bytes changes, and their neighbours.
func edges() []int {
	l := []int{0, 1, 2, 5, 100, 300, math.MaxInt32, math.MaxInt64 - 1, math.MaxInt64}
	for i := 7; i < 63; i += 7 {
		l = append(l, 1<<i-1, 1<<i, 1<<i+1)
	}
	return l
}

func TestPut(t *testing.T) {
	for _, x := range []struct {
		n    int
		want string
	}{
		{0, "\x00"}, {1, "\x01"}, {127, "\x7f"},
		{128, "\x80\x01"}, {129, "\x81\x01"}, {300, "\xac\x02"},
		{1<<14 - 1, "\xff\x7f"}, {1 << 14, "\x80\x80\x01"},
		{1<<56 - 1, "\xff\xff\xff\xff\xff\xff\xff\x7f"},
		{1 << 56, "\x80\x80\x80\x80\x80\x80\x80\x80\x01"},
		{math.MaxInt64, "\xff\xff\xff\xff\xff\xff\xff\xff\x7f"},
		{-1, "\x00"}, {-128, "\x00"}, {math.MinInt64, "\x00"},
	} {
		if b := raw.Put(nil, x.n); string(b) != x.want {
			t.Errorf("Put(nil, %d): %x, not %x", x.n, b, x.want)
		}
		if b := raw.Put([]byte{9, 0x80}, x.n); string(b) != "\x09\x80"+x.want {
			t.Errorf("Put(09 80, %d): %x", x.n, b)
		}
	}
}

func TestPutText(t *testing.T) {
	long := bytes.Repeat([]byte{0xfe}, 300)
	for _, x := range []struct{ b, t, want string }{
		{"", "", "\x00"}, {"\x07", "", "\x07\x00"},
		{"", "ab", "\x02ab"}, {"\x07\x80", "ab", "\x07\x80\x02ab"},
		{"", "\x00", "\x01\x00"},
		{"x", string(long[:127]), "x\x7f" + string(long[:127])},
		{"x", string(long[:128]), "x\x80\x01" + string(long[:128])},
		{"", string(long), "\xac\x02" + string(long)},
	} {
		if b := raw.PutText([]byte(x.b), []byte(x.t)); string(b) != x.want {
			t.Errorf("PutText(%x, %x): %x, not %x", x.b, x.t, b, x.want)
		}
	}
	if b := raw.PutText(nil, nil); string(b) != "\x00" {
		t.Errorf("PutText(nil, nil): %x", b)
	}
}

func TestPutTruth(t *testing.T) {
	for _, x := range []struct {
		b    string
		is   bool
		want string
	}{{"", false, "\x00"}, {"", true, "\x01"}, {"\x80", false, "\x80\x00"}, {"a\x80", true, "a\x80\x01"}} {
		if b := raw.PutTruth([]byte(x.b), x.is); string(b) != x.want {
			t.Errorf("PutTruth(%x, %t): %x, not %x", x.b, x.is, b, x.want)
		}
	}
}

func TestGet(t *testing.T) {
	for _, x := range []struct {
		b       string
		at      int
		n, next int
		e       api.Errno
	}{
		{"\x00", 0, 0, 1, api.OK},
		{"\x7f\x80", 0, 127, 1, api.OK},
		{"\x80\x01", 0, 128, 2, api.OK},
		{"\x80\x01", 1, 1, 2, api.OK},
		{"\x09\xac\x02\x09", 1, 300, 3, api.OK},
		{"\xff\xff\xff\xff\xff\xff\xff\xff\x7f", 0, math.MaxInt64, 9, api.OK},
		{"\x80\x80\x80\x80\x80\x80\x80\x80\x01\xff", 0, 1 << 56, 9, api.OK},
		{"\x00\x00", -1, 0, 0, api.ErrRange},
		{"\x00\x00", 3, 0, 0, api.ErrRange},
		{"", 1, 0, 0, api.ErrRange},
		{"", math.MaxInt64, 0, 0, api.ErrRange},
		{"", math.MinInt64, 0, 0, api.ErrRange},
		{"", 0, 0, 0, api.ErrShort},
		{"\x00", 1, 0, 0, api.ErrShort},
		{"\x01\x80", 1, 0, 0, api.ErrShort},
		{"\xff\xff\xff\xff\xff\xff\xff\xff", 0, 0, 0, api.ErrShort},
		{"\xff\xff\xff\xff\xff\xff\xff\xff\xff", 0, 0, 0, api.ErrForm},
		{"\x80\x80\x80\x80\x80\x80\x80\x80\x80\x01", 0, 0, 0, api.ErrForm},
		{"\x00\xff\xff\xff\xff\xff\xff\xff\xff\xff", 1, 0, 0, api.ErrForm},
		{"\x00\xff\xff\xff\xff\xff\xff\xff\xff\xff", 2, 0, 0, api.ErrShort},
		{"\x80\x00", 0, 0, 0, api.ErrForm},
		{"\xff\x00", 0, 0, 0, api.ErrForm},
		{"\xff\x80\x00", 0, 0, 0, api.ErrForm},
		{"\x80\x80\x80\x80\x80\x80\x80\x80\x00", 0, 0, 0, api.ErrForm},
		{"\x80\x00", 1, 0, 2, api.OK},
	} {
		n, next, e := raw.Get([]byte(x.b), x.at)
		if n != x.n || next != x.next || e != x.e {
			t.Errorf("Get(%x, %d): %d %d %d, not %d %d %d", x.b, x.at, n, next, int(e), x.n, x.next, int(x.e))
		}
	}
	if _, _, e := raw.Get(nil, 0); e != api.ErrShort {
		t.Errorf("Get(nil, 0): %d", int(e))
	}
}

// told is what the chapter's words say of the number at a byte, told from the count of bytes that go on.
func told(b []byte, at int) (n, next int, e api.Errno) {
	if at < 0 || at > len(b) {
		return 0, 0, api.ErrRange
	}
	rest := b[at:]
	on := 0
	for on < len(rest) && rest[on] >= 128 {
		on++
	}
	if on >= 9 {
		return 0, 0, api.ErrForm
	}
	if on == len(rest) {
		return 0, 0, api.ErrShort
	}
	if on > 0 && rest[on] == 0 {
		return 0, 0, api.ErrForm
	}
	for i := on; i >= 0; i-- {
		n = n*128 + int(rest[i])%128
	}
	return n, at + on + 1, api.OK
}

// each goes through all texts of up to so many bytes that have these bytes alone.
func each(alphabet []byte, most int, do func([]byte)) {
	var grow func(b []byte)
	grow = func(b []byte) {
		do(b)
		if len(b) == most {
			return
		}
		for _, c := range alphabet {
			grow(append(b[:len(b):len(b)], c))
		}
	}
	grow(nil)
}

func TestGetOfAllShortTexts(t *testing.T) {
	check := func(b []byte) {
		for at := -1; at <= len(b)+1 && at < 2; at++ {
			n, next, e := raw.Get(b, at)
			wn, wnext, we := told(b, at)
			if n != wn || next != wnext || e != we {
				t.Fatalf("Get(%x, %d): %d %d %d, not %d %d %d", b, at, n, next, int(e), wn, wnext, int(we))
			}
		}
	}
	each([]byte{0x00, 0x7f, 0x80, 0xff}, 7, check)
	each([]byte{0x00, 0x80, 0xd5}, 11, check)
	var all []byte
	for c := range 256 {
		all = append(all, byte(c))
	}
	each(all, 2, check)
}

func TestGetText(t *testing.T) {
	for _, x := range []struct {
		b        string
		at, most int
		t        string
		next     int
		e        api.Errno
	}{
		{"\x00", 0, 0, "", 1, api.OK},
		{"\x02xy", 0, 2, "xy", 3, api.OK},
		{"\x00\x02xy\x07", 1, 5, "xy", 4, api.OK},
		{"\x02xy\x00", 3, 0, "", 4, api.OK},
		{"\x02xy", 0, math.MaxInt64, "xy", 3, api.OK},
		{"\x02xy", -1, 9, "", 0, api.ErrRange},
		{"\x02xy", 4, 9, "", 0, api.ErrRange},
		{"\x02xy", 3, 9, "", 0, api.ErrShort},
		{"\x80", 0, 9, "", 0, api.ErrShort},
		{"\x82\x00xy", 0, 9, "", 0, api.ErrForm},
		{"\xff\xff\xff\xff\xff\xff\xff\xff\xff\x01", 0, 9, "", 0, api.ErrForm},
		{"\x02xy", 0, 1, "", 0, api.ErrFull},
		{"\x00", 0, -1, "", 0, api.ErrFull},
		{"\x02", 0, 1, "", 0, api.ErrFull},
		{"\x02x", 0, 2, "", 0, api.ErrShort},
		{"\x02xy", 0, math.MinInt64, "", 0, api.ErrFull},
		{"\xff\xff\xff\xff\xff\xff\xff\xff\x7f", 0, math.MaxInt64, "", 0, api.ErrShort},
		{"\xf7\xff\xff\xff\xff\xff\xff\xff\x7fxy", 0, math.MaxInt64, "", 0, api.ErrShort},
		{"\xff\xff\xff\xff\xff\xff\xff\xff\x7f", 0, math.MaxInt64 - 1, "", 0, api.ErrFull},
	} {
		s, next, e := raw.GetText([]byte(x.b), x.at, x.most)
		if string(s) != x.t || next != x.next || e != x.e {
			t.Errorf("GetText(%x, %d, %d): %q %d %d, not %q %d %d", x.b, x.at, x.most, s, next, int(e), x.t, x.next, int(x.e))
		}
	}
}

func TestGetTruth(t *testing.T) {
	for _, x := range []struct {
		b    string
		at   int
		is   bool
		next int
		e    api.Errno
	}{
		{"\x00", 0, false, 1, api.OK},
		{"\x01", 0, true, 1, api.OK},
		{"\x01\x00\x01", 1, false, 2, api.OK},
		{"\x00\x01\x02", 1, true, 2, api.OK},
		{"\x01", -1, false, 0, api.ErrRange},
		{"\x01", 2, false, 0, api.ErrRange},
		{"", math.MaxInt64, false, 0, api.ErrRange},
		{"", math.MinInt64, false, 0, api.ErrRange},
		{"", 0, false, 0, api.ErrShort},
		{"\x01", 1, false, 0, api.ErrShort},
	} {
		is, next, e := raw.GetTruth([]byte(x.b), x.at)
		if is != x.is || next != x.next || e != x.e {
			t.Errorf("GetTruth(%x, %d): %t %d %d, not %t %d %d", x.b, x.at, is, next, int(e), x.is, x.next, int(x.e))
		}
	}
	for c := 2; c < 256; c++ {
		if is, next, e := raw.GetTruth([]byte{byte(c)}, 0); is || next != 0 || e != api.ErrForm {
			t.Errorf("GetTruth(%02x, 0): %t %d %d", c, is, next, int(e))
		}
	}
}

func TestWhatIsPutIsGot(t *testing.T) {
	for _, n := range edges() {
		b := raw.Put([]byte{0x80}, n)
		if m, next, e := raw.Get(raw.PutTruth(b, true), 1); m != n || next != len(b) || e != api.OK {
			t.Errorf("%d: got %d, %d, %d", n, m, next, int(e))
		}
	}
	for _, n := range []int{0, 1, 127, 128, 129, 5000} {
		s := bytes.Repeat([]byte{0xa5}, n)
		b := raw.PutText([]byte{0x80}, s)
		if got, next, e := raw.GetText(raw.PutTruth(b, true), 1, n); !bytes.Equal(got, s) || next != len(b) || e != api.OK {
			t.Errorf("%d bytes: got %x, %d, %d", n, got, next, int(e))
		}
	}
	for _, is := range []bool{false, true} {
		b := raw.PutTruth([]byte{0x80}, is)
		if got, next, e := raw.GetTruth(b, 1); got != is || next != 2 || e != api.OK {
			t.Errorf("%t: got %t, %d, %d", is, got, next, int(e))
		}
	}
}

func TestOneBehindTheOther(t *testing.T) {
	var b []byte
	for _, n := range edges() {
		b = raw.PutTruth(raw.PutText(raw.Put(b, n), raw.Put(nil, n)), n%2 == 1)
	}
	at := 0
	for _, n := range edges() {
		m, next, e := raw.Get(b, at)
		s, next, f := raw.GetText(b, next, 9)
		is, next, g := raw.GetTruth(b, next)
		if m != n || string(s) != string(raw.Put(nil, n)) || is != (n%2 == 1) || e != api.OK || f != api.OK || g != api.OK {
			t.Fatalf("%d: got %d, %x, %t", n, m, s, is)
		}
		at = next
	}
	if at != len(b) {
		t.Errorf("%d bytes are left", len(b)-at)
	}
}
