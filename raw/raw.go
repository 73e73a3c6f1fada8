// Package raw is layer 1: numbers and texts as bytes. See shared/doc/01-raw.md.
package raw

import (
	"gradine/api"
)

const (
	bits    = 7         // of a number in each byte
	goesOn  = 1 << bits // the bit of a byte that isn't a number's last one
	longest = 9         // bytes: nine times seven bits are all that a number below 2^63 has
)

// Put answers b, and n behind it; a negative n counts as 0.
func Put(b []byte, n int) []byte {
	out := room(b, longest)
	n = max(n, 0)
	for {
		if n < goesOn {
			goto last
		}
		out = append(out, byte(n)|goesOn)
		n >>= bits
	}
last:
	return append(out, byte(n))
}

// PutText answers b, and t behind it: its length, then its bytes.
func PutText(b, t []byte) []byte {
	return append(Put(b, len(t)), t...)
}

// PutTruth answers b, and a byte behind it: 1, if is holds, else 0.
func PutTruth(b []byte, is bool) []byte {
	out := room(b, 1)
	if is {
		return append(out, 1)
	}
	return append(out, 0)
}

// Get answers the number that begins at the byte at, and where it ends.
func Get(b []byte, at int) (n, next int, e api.Errno) {
	var c byte
	if at < 0 || at > len(b) {
		return 0, 0, api.ErrRange
	}
	for i := range longest {
		if at+i == len(b) {
			return 0, 0, api.ErrShort
		}
		c = b[at+i]
		n |= int(c%goesOn) << (bits * i)
		next = at + i + 1
		if c < goesOn {
			goto last
		}
	}
	return 0, 0, api.ErrForm
last:
	// A last byte of 0 adds nothing to the bytes ahead of it: without it the number is shorter.
	if c == 0 && next > at+1 {
		return 0, 0, api.ErrForm
	}
	return n, next, api.OK
}

// GetText answers the text of at most so many bytes that begins at the byte at, and where it ends.
func GetText(b []byte, at, most int) (t []byte, next int, e api.Errno) {
	n, start, e := Get(b, at)
	if e != api.OK {
		return nil, 0, e
	}
	if n > most {
		return nil, 0, api.ErrFull
	}
	// Not start+n > len(b): a length near 2^63 would wrap round.
	if n > len(b)-start {
		return nil, 0, api.ErrShort
	}
	next = start + n
	return room(b[start:next], 0), next, api.OK
}

// GetTruth answers the truth that is the byte at, and where it ends.
func GetTruth(b []byte, at int) (is bool, next int, e api.Errno) {
	switch {
	case at < 0 || at > len(b):
		return false, 0, api.ErrRange
	case at == len(b):
		return false, 0, api.ErrShort
	case b[at] > 1:
		return false, 0, api.ErrForm
	}
	return b[at] == 1, at + 1, api.OK
}

// room answers b in new memory with spare room for more bytes: to append to b itself might write into the caller's spare room.
func room(b []byte, more int) []byte {
	return append(make([]byte, 0, len(b)+more), b...)
}
