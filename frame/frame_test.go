package frame_test

import (
	"bytes"
	"math"
	"strings"
	"testing"

	"gradine/api"
	"gradine/frame"
	"gradine/raw"
)

const great = 1 << 40

// field is a number of a packet, from what on it is right, and how it is set.
type field struct {
	name  string
	least int
	set   func(p *api.Packet, n int)
}

// fields are a packet's numbers, in the order of its bytes.
func fields() []field {
	return []field{
		{"Mine", 1, func(p *api.Packet, n int) { p.Mine = n }},
		{"Yours", 0, func(p *api.Packet, n int) { p.Yours = n }},
		{"Seq", 0, func(p *api.Packet, n int) { p.Seq = n }},
		{"Ack", 0, func(p *api.Packet, n int) { p.Ack = n }},
	}
}

// bare is a packet that has its boot alone; full has all.
func bare() api.Packet { return api.Packet{Mine: 1} }
func full() api.Packet {
	return api.Packet{Mine: 300, Yours: 2, Seq: 128, Ack: 7, Load: []byte("ab\x00\xff")}
}

// wrongNumbers are what a field may not be: beyond its bounds on either side.
func wrongNumbers(f field) []int {
	l := []int{-1, -2, -great, math.MinInt, great + 1, great + 2, 2 * great, 2*great + 1, 1 << 62, math.MaxInt}
	for n := range f.least {
		l = append(l, n)
	}
	return l
}

// same tells whether both are one packet; nil and empty loads are one.
func same(a, b api.Packet) bool {
	return a.Mine == b.Mine && a.Yours == b.Yours && a.Seq == b.Seq && a.Ack == b.Ack && bytes.Equal(a.Load, b.Load)
}

// checksum is told apart from the program: places are counted up to 251, and multiples of it are taken off at each byte.
func checksum(b string) string {
	all, places := 0, 0
	for i := 0; i < len(b); i++ {
		places++
		if places == 251 {
			places = 0
		}
		all += places * int(b[i])
		all -= all / 251 * 251
	}
	return string([]byte{byte(all)})
}

// summed is b with the sum behind it.
func summed(b string) string { return b + checksum(b) }

// long is a load of so many bytes.
func long(n int) []byte { return bytes.Repeat([]byte("x"), n) }

func checkRight(t *testing.T, p api.Packet, want bool) {
	t.Helper()
	if frame.Right(p) != want {
		t.Errorf("%v: right %v, not %v", p, !want, want)
	}
	b, e := frame.Put(p)
	if want && (e != api.OK || len(b) == 0) || !want && (e != api.ErrArg || len(b) != 0) {
		t.Errorf("%v: put as %x %d", p, b, int(e))
	}
}

func put(t *testing.T, p api.Packet) string {
	t.Helper()
	b, e := frame.Put(p)
	if e != api.OK {
		t.Fatalf("Put(%v): %d", p, int(e))
	}
	return string(b)
}

// TestRightOfNumbers: each is right from its least one to 2^40, and nowhere else, whatever the others are.
func TestRightOfNumbers(t *testing.T) {
	for _, f := range fields() {
		for _, p := range []api.Packet{bare(), full(), {Mine: great, Yours: great, Seq: great, Ack: great}} {
			if f.name == "Seq" {
				p.Load = nil
			}
			for _, n := range []int{f.least, 1, 2, 127, 128, 1 << 32, great / 2, great - 1, great} {
				f.set(&p, n)
				checkRight(t, p, true)
			}
			for _, n := range wrongNumbers(f) {
				f.set(&p, n)
				checkRight(t, p, false)
			}
		}
	}
	checkRight(t, api.Packet{}, false)
}

// TestRightOfLoads: of a packet with a number they have from 0 to 128 bytes, of one without it none.
func TestRightOfLoads(t *testing.T) {
	for _, seq := range []int{1, 2, 128, great} {
		for _, n := range []int{0, 1, 2, 64, 127, 128} {
			checkRight(t, api.Packet{Mine: 1, Seq: seq, Load: long(n)}, true)
		}
		for _, n := range []int{129, 130, 255, 256, 384, 1 << 16} {
			checkRight(t, api.Packet{Mine: 1, Seq: seq, Load: long(n)}, false)
		}
	}
	for _, n := range []int{1, 2, 127, 128, 129, 256} {
		checkRight(t, api.Packet{Mine: 1, Load: long(n)}, false)
		checkRight(t, api.Packet{Mine: 9, Yours: 9, Ack: 9, Load: make([]byte, n)}, false)
	}
}

// TestRightOfNoLoad: an empty one is none, and spare room isn't a load.
func TestRightOfNoLoad(t *testing.T) {
	for _, load := range [][]byte{nil, {}, make([]byte, 0, 200), []byte("abc")[:0]} {
		checkRight(t, api.Packet{Mine: 1, Load: load}, true)
		checkRight(t, api.Packet{Mine: 1, Seq: 1, Load: load}, true)
	}
	checkRight(t, api.Packet{Mine: 1, Seq: 1, Load: make([]byte, 128, 300)}, true)
	checkRight(t, api.Packet{Mine: 1, Seq: 1, Load: make([]byte, 129, 129)}, false)
}

func TestPut(t *testing.T) {
	for want, p := range map[string]api.Packet{
		"\x01\x00\x00\x00\x00\x01":                     {Mine: 1},
		"\x01\x02\x00\x03\x00\x11":                     {Mine: 1, Yours: 2, Ack: 3},
		"\x01\x00\x02\x00\x00\x07":                     {Mine: 1, Seq: 2},
		"\x02\x01\x03\x04\x02ab\x34":                   {Mine: 2, Yours: 1, Seq: 3, Ack: 4, Load: []byte("ab")},
		"\x80\x01\x00\x00\x00\x00\x82":                 {Mine: 128},
		"\x7b\x40\x00\x00\x00\x00":                     {Mine: 123, Yours: 64},
		"\x7a\x40\x00\x00\x00\xfa":                     {Mine: 122, Yours: 64},
		"\x01\x00\x01\x00\x01\xff\x21":                 {Mine: 1, Seq: 1, Load: []byte{255}},
		"\x80\x80\x80\x80\x80\x20\x00\x00\x00\x00\x68": {Mine: great},
	} {
		if b := put(t, p); b != want {
			t.Errorf("%v: %x, not %x", p, b, want)
		}
	}
}

// TestPutOfEachField: the numbers, then the load, each told where it stands.
func TestPutOfEachField(t *testing.T) {
	for i, f := range fields() {
		for _, n := range []int{1, 2, 127, 128, 129, 16383, 16384, 1 << 32, great - 1, great} {
			p := full()
			f.set(&p, n)
			pieces := []string{"\xac\x02", "\x02", "\x80\x01", "\x07", "\x04ab\x00\xff"}
			pieces[i] = string(raw.Put(nil, n))
			if b, want := put(t, p), summed(strings.Join(pieces, "")); b != want {
				t.Errorf("%s %d: %x, not %x", f.name, n, b, want)
			}
		}
	}
	for _, n := range []int{0, 1, 2, 100, 127, 128} {
		p := api.Packet{Mine: 5, Yours: 6, Seq: 7, Ack: 8, Load: long(n)}
		want := summed("\x05\x06\x07\x08" + string(raw.Put(nil, n)) + strings.Repeat("x", n))
		if b := put(t, p); b != want {
			t.Errorf("%d bytes: %x, not %x", n, b, want)
		}
	}
}

// TestPutOfGreatSums: of the greatest bytes at the greatest places.
func TestPutOfGreatSums(t *testing.T) {
	for n := range 129 {
		for _, c := range []byte{0, 1, 127, 128, 250, 251, 252, 255} {
			p := api.Packet{Mine: great - 1, Yours: great - 1, Seq: great - 1, Ack: great - 1, Load: bytes.Repeat([]byte{c}, n)}
			b := put(t, p)
			if want := summed(b[:len(b)-1]); b != want {
				t.Errorf("%d times %d: %x, not %x", n, c, b, want)
			}
		}
	}
}

// TestSumsAreBelowTheModulus: each one from 0 to 250 is some packet's, and nothing above is.
func TestSumsAreBelowTheModulus(t *testing.T) {
	seen := make([]bool, 256)
	for mine := 1; mine < 128; mine++ {
		for yours := range 128 {
			b := put(t, api.Packet{Mine: mine, Yours: yours})
			if want := (mine + 2*yours) % 251; int(b[5]) != want {
				t.Errorf("%d %d: %d, not %d", mine, yours, b[5], want)
			}
			seen[b[5]] = true
		}
	}
	for i, is := range seen {
		if is != (i < 251) {
			t.Errorf("sum %d: %v", i, is)
		}
	}
}

// TestPutOfWrongTogether: also where all is wrong there is nothing but the error.
func TestPutOfWrongTogether(t *testing.T) {
	for _, n := range []int{-1, great + 1, math.MinInt, math.MaxInt} {
		for _, load := range [][]byte{nil, long(1), long(129)} {
			checkRight(t, api.Packet{Mine: n, Yours: n, Seq: n, Ack: n, Load: load}, false)
		}
	}
}
