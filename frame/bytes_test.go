package frame_test

import (
	"math/rand"
	"slices"
	"strings"
	"testing"

	"gradine/api"
	"gradine/frame"
	"gradine/raw"
)

const (
	endless = "\xff\xff\xff\xff\xff\xff\xff\xff\xff"
	huge    = "\xff\xff\xff\xff\xff\xff\xff\xff\x7f"
)

// checkGet tells where b isn't got with that error, or something is answered beside it.
func checkGet(t *testing.T, name, b string, want api.Errno) {
	t.Helper()
	p, e := frame.Get([]byte(b))
	if e != want {
		t.Errorf("%s: %x: %d, not %d", name, b, int(e), int(want))
	}
	if e != api.OK && (!same(p, api.Packet{}) || len(p.Load) != 0) {
		t.Errorf("%s: %x: %v beside %d", name, b, p, int(e))
	}
}

// pieces are the bytes of full(), field by field, without the sum.
func pieces() []string {
	return []string{"\xac\x02", "\x02", "\x80\x01", "\x07", "\x04ab\x00\xff"}
}

func TestGet(t *testing.T) {
	for b, want := range map[string]api.Packet{
		"\x01\x00\x00\x00\x00\x01":                         {Mine: 1},
		"\x01\x02\x00\x03\x00\x11":                         {Mine: 1, Yours: 2, Ack: 3},
		"\x02\x01\x03\x04\x02ab\x34":                       {Mine: 2, Yours: 1, Seq: 3, Ack: 4, Load: []byte("ab")},
		"\x7b\x40\x00\x00\x00\x00":                         {Mine: 123, Yours: 64},
		"\x01\x00\x01\x00\x01\xff\x21":                     {Mine: 1, Seq: 1, Load: []byte{255}},
		summed(strings.Join(pieces(), "")):                 full(),
		summed("\x01\x00\x01\x00\x00"):                     {Mine: 1, Seq: 1},
		summed("\x01\x00\x01\x00\x05\x01\x00\x00\x00\x00"): {Mine: 1, Seq: 1, Load: []byte("\x01\x00\x00\x00\x00")},
	} {
		if p, e := frame.Get([]byte(b)); e != api.OK || !same(p, want) {
			t.Errorf("%x: %v %d, not %v", b, p, int(e), want)
		}
	}
}

// TestGetOfNothing: bytes that are none, or nothing but a sum.
func TestGetOfNothing(t *testing.T) {
	if p, e := frame.Get(nil); e != api.ErrShort || !same(p, api.Packet{}) {
		t.Errorf("nil: %v %d", p, int(e))
	}
	checkGet(t, "nothing", "", api.ErrShort)
	checkGet(t, "a sum of nothing", "\x00", api.ErrShort)
	for c := 1; c < 256; c++ {
		checkGet(t, "a wrong sum of nothing", string([]byte{byte(c)}), api.ErrForm)
	}
}

// TestGetOfTheSum: no other last byte is right, also those that are the same but for the modulus; it is told ahead of all else.
func TestGetOfTheSum(t *testing.T) {
	for _, b := range []string{
		"", "\x01\x00\x00\x00\x00", strings.Join(pieces(), ""), "\x01\x00\x01\x00\x01\xff", "\x7b\x40\x00\x00\x00",
		"\x80", "\x01", "\x00\x00\x00\x00\x00", "\x01\x00\x00\x00\x00\x00", "\x01\x00\x01\x00\x81\x01", endless, strings.Repeat("\xff", 400),
	} {
		right := checksum(b)
		for c := range 256 {
			if last := string([]byte{byte(c)}); last != right {
				checkGet(t, "a wrong sum", b+last, api.ErrForm)
			}
		}
	}
}

// TestGetOfEachByteChanged: the sum tells of each byte that is another one, but 0 and 251 and the like are one to it.
func TestGetOfEachByteChanged(t *testing.T) {
	for _, p := range []api.Packet{bare(), full(), {Mine: great, Yours: 3, Seq: 4, Ack: 5, Load: long(128)}} {
		b := put(t, p)
		for i := range b {
			for c := range 256 {
				if byte(c) == b[i] || i < len(b)-1 && (c-int(b[i]))%251 == 0 {
					continue
				}
				other := []byte(b)
				other[i] = byte(c)
				checkGet(t, "a byte is another one", string(other), api.ErrForm)
			}
		}
	}
}

// TestGetOfBytesTurned: what stands elsewhere has another sum.
func TestGetOfBytesTurned(t *testing.T) {
	b := put(t, api.Packet{Mine: 1, Yours: 2, Seq: 3, Ack: 4, Load: []byte("abcdef")})
	for i := range b {
		for k := range i {
			other := []byte(b)
			other[i], other[k] = other[k], other[i]
			if want := summed(string(other[:len(b)-1])); want != string(other) {
				checkGet(t, "bytes are turned about", string(other), api.ErrForm)
			}
		}
	}
	checkGet(t, "Mine and Yours are", "\x02\x01\x03\x04\x00"+checksum("\x01\x02\x03\x04\x00"), api.ErrForm)
}

// faults are pieces that tell no number, or no load, and layer 1's errors of them at the end of the bytes.
func faults(isLoad bool) map[string]api.Errno {
	l := map[string]api.Errno{
		"": api.ErrShort, "\x80": api.ErrShort, "\xff\xff": api.ErrShort, endless[:8]: api.ErrShort,
		endless: api.ErrForm, "\x80\x00": api.ErrForm, "\x81\x00": api.ErrForm, "\x83\x80\x00": api.ErrForm,
	}
	if isLoad {
		l["\x01"], l["\x02x"], l["\x7f"+strings.Repeat("x", 126)] = api.ErrShort, api.ErrShort, api.ErrShort
		l["\x80\x01"], l["\x80\x01"+strings.Repeat("x", 127)] = api.ErrShort, api.ErrShort
		l["\x81\x01"], l["\x81\x01"+strings.Repeat("x", 129)] = api.ErrFull, api.ErrFull
		l["\x80\x02"], l[huge], l["\x80\x80\x80\x80\x10"] = api.ErrFull, api.ErrFull, api.ErrFull
	}
	return l
}

// TestGetOfEachPiece: the first fault is told, whatever is behind it; the sum isn't read as one of the others.
func TestGetOfEachPiece(t *testing.T) {
	for i := range pieces() {
		ahead := strings.Join(pieces()[:i], "")
		rest := strings.Join(pieces()[i+1:], "")
		for piece, want := range faults(i == 4) {
			checkGet(t, "a fault", summed(ahead+piece), want)
			if want != api.ErrShort {
				checkGet(t, "a fault, and the rest", summed(ahead+piece+rest), want)
				checkGet(t, "a fault, and another one", summed(ahead+piece+endless), want)
			}
		}
	}
}

// TestGetOfBytesThatEnd: with a sum of their own all that is ahead of the end is too short.
func TestGetOfBytesThatEnd(t *testing.T) {
	for _, p := range []api.Packet{bare(), full(), {Mine: great, Seq: great, Load: long(128)}} {
		b := put(t, p)
		for i := range len(b) - 1 {
			checkGet(t, "it ends within", summed(b[:i]), api.ErrShort)
		}
	}
}

// TestGetOfBytesLeft: behind the load, ahead of the sum; told ahead of what isn't right.
func TestGetOfBytesLeft(t *testing.T) {
	for _, b := range []string{"\x01\x00\x00\x00\x00", strings.Join(pieces(), ""), "\x00\x00\x00\x00\x00", "\x01\x00\x00\x00\x01a"} {
		for _, left := range []string{"\x00", "\x01", "\xff", "\x00\x00", b, checksum(b), endless, strings.Repeat("x", 500)} {
			checkGet(t, "bytes left", summed(b+left), api.ErrForm)
		}
	}
	checkGet(t, "a load's byte left", summed("\x01\x00\x01\x00\x02abc"), api.ErrForm)
}

// TestGetOfWrongPackets: they are told last of all.
func TestGetOfWrongPackets(t *testing.T) {
	for i, f := range fields() {
		for _, n := range append(wrongNumbers(f), great+5) {
			if n < 0 {
				continue
			}
			l := pieces()
			l[i] = string(raw.Put(nil, n))
			checkGet(t, f.name+" isn't right", summed(strings.Join(l, "")), api.ErrArg)
			checkGet(t, f.name+" isn't right, and a byte left", summed(strings.Join(l, "")+"\x00"), api.ErrForm)
			for k := i + 1; k < len(l); k++ {
				for piece, want := range faults(k == 4) {
					checkGet(t, f.name+" isn't right, and a fault", summed(strings.Join(l[:k], "")+piece), want)
				}
			}
		}
	}
	for _, n := range []int{1, 2, 127, 128} {
		b := "\x05\x06\x00\x08" + string(raw.PutText(nil, long(n)))
		checkGet(t, "a load without a number", summed(b), api.ErrArg)
	}
	checkGet(t, "a load without a number that is too long", summed("\x05\x06\x00\x08"+string(raw.PutText(nil, long(129)))), api.ErrFull)
	checkGet(t, "all 0", "\x00\x00\x00\x00\x00\x00", api.ErrArg)
}

// TestGetOfVeryManyBytes: their sum is that of all of them.
func TestGetOfVeryManyBytes(t *testing.T) {
	for _, n := range []int{250, 251, 252, 1000, 1 << 16, 1 << 20} {
		b := "\x01\x00\x01\x00\x81\x01" + strings.Repeat("\xff", n)
		checkGet(t, "many bytes", summed(b), api.ErrFull)
		for _, i := range []int{6, n / 2, n + 4} {
			wrong := []byte(summed(b))
			wrong[i] = 1
			checkGet(t, "many bytes, one wrong", string(wrong), api.ErrForm)
		}
	}
}

// TestPutIsGot: also at the bounds of each field, each alone and with others.
func TestPutIsGot(t *testing.T) {
	numbers := []int{0, 1, 2, 127, 128, 16384, great - 1, great}
	for _, mine := range numbers[1:] {
		for _, yours := range numbers {
			for _, seq := range numbers {
				for _, ack := range numbers {
					p := api.Packet{Mine: mine, Yours: yours, Seq: seq, Ack: ack}
					if seq != 0 {
						p.Load = long((mine + yours + ack) % 129)
					}
					if got, e := frame.Get([]byte(put(t, p))); e != api.OK || !same(got, p) {
						t.Errorf("%v: %v %d", p, got, int(e))
					}
				}
			}
		}
	}
}

// TestPutIsGotOfAnyLoad: of each length, with each byte.
func TestPutIsGotOfAnyLoad(t *testing.T) {
	for n := range 129 {
		for _, first := range []int{0, 64, 128, 192, 250} {
			p := api.Packet{Mine: 3, Seq: 1, Load: make([]byte, n)}
			for i := range p.Load {
				p.Load[i] = byte(first + i)
			}
			if got, e := frame.Get([]byte(put(t, p))); e != api.OK || !same(got, p) {
				t.Errorf("%v: %v %d", p, got, int(e))
			}
		}
	}
}

// told is what the chapter's words say of bytes, from what layer 1 says of the pieces.
func told(b []byte) (api.Packet, api.Errno) {
	if len(b) == 0 {
		return api.Packet{}, api.ErrShort
	}
	body := b[:len(b)-1]
	if summed(string(body)) != string(b) {
		return api.Packet{}, api.ErrForm
	}
	numbers, at := make([]int, 4), 0
	for i := range numbers {
		n, next, e := raw.Get(body, at)
		if e != api.OK {
			return api.Packet{}, e
		}
		numbers[i], at = n, next
	}
	load, next, e := raw.GetText(body, at, 128)
	if e != api.OK {
		return api.Packet{}, e
	}
	if next != len(body) {
		return api.Packet{}, api.ErrForm
	}
	if numbers[0] == 0 || slices.Max(numbers) > great || numbers[2] == 0 && len(load) > 0 {
		return api.Packet{}, api.ErrArg
	}
	return api.Packet{Mine: numbers[0], Yours: numbers[1], Seq: numbers[2], Ack: numbers[3], Load: load}, api.OK
}

// checkTold tells where b is got otherwise than told, or is put otherwise than it was.
func checkTold(t *testing.T, b []byte) {
	t.Helper()
	p, e := frame.Get(b)
	want, we := told(b)
	if e != we || !same(p, want) {
		t.Errorf("%x: %v %d, not %v %d", b, p, int(e), want, int(we))
	}
	if e == api.OK && put(t, p) != string(b) {
		t.Errorf("%x: %v, and again %x", b, p, put(t, p))
	}
}

// TestGetOfAllShortBytes: all that have up to so many of these bytes, with their sum and without.
func TestGetOfAllShortBytes(t *testing.T) {
	for _, alphabet := range []string{"\x00\x01\x80", "\x00\x01\x02\xff"} {
		level := []string{""}
		for range 8 {
			var next []string
			for _, b := range level {
				checkTold(t, []byte(b))
				checkTold(t, []byte(summed(b)))
				for _, c := range []byte(alphabet) {
					next = append(next, b+string([]byte{c}))
				}
			}
			level = next
		}
	}
}

// TestGetOfBytesMended: of packets with bytes changed, put in and left out, and a sum that is right again.
func TestGetOfBytesMended(t *testing.T) {
	r := rand.New(rand.NewSource(7))
	for range 40000 {
		p := api.Packet{Mine: 1 + r.Intn(300), Yours: r.Intn(300), Seq: r.Intn(3), Ack: r.Intn(1 << r.Intn(41))}
		if p.Seq != 0 {
			p.Load = long(r.Intn(129) >> r.Intn(8))
		}
		b := []byte(put(t, p))
		b = b[:len(b)-1]
		for range 1 + r.Intn(3) {
			at := r.Intn(min(len(b), 12))
			switch r.Intn(3) {
			case 0:
				b[at] = byte(r.Intn(256))
			case 1:
				b = slices.Insert(b, at, byte(r.Intn(256)))
			case 2:
				b = slices.Delete(b, at, at+1)
			}
			if len(b) == 0 {
				break
			}
		}
		checkTold(t, b)
		checkTold(t, []byte(summed(string(b))))
	}
}
