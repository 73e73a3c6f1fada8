package sector_test

import (
	"bytes"
	"slices"
	"testing"

	"gradine/api"
	"gradine/sector"
)

// spoil writes all over b and its spare room.
func spoil(b []byte) {
	b = b[:cap(b)]
	for i := range b {
		b[i] = ^b[i]
	}
}

// TestWhatIsWrittenIsNotKept: who changes it behind the write changes no sector.
func TestWhatIsWrittenIsNotKept(t *testing.T) {
	for _, n := range []int{0, 1, 3, 64} {
		d := sector.New(3)
		b := append(make([]byte, 0, 200), bytes.Repeat([]byte("a"), n)...)
		want := string(b)
		for at := range 2 {
			if e := d.Write(at, b); e != api.OK {
				t.Fatalf("%d bytes: %d", n, int(e))
			}
		}
		spoil(b)
		checkRead(t, d, 0, want)
		checkRead(t, d, 1, want)
		checkWrite(t, d, 0, "other", api.OK)
		checkRead(t, d, 1, want)
		checkRead(t, d, 2, "")
	}
}

// TestWhatIsHandedInStays: no write changes it, nor the spare room behind it.
func TestWhatIsHandedInStays(t *testing.T) {
	for _, n := range []int{0, 1, 64, 65} {
		all := bytes.Repeat([]byte("ab"), 100)
		was := slices.Clone(all)
		d := sector.New(1)
		d.Fuse(2)
		for _, s := range []string{"", "xyz", "more", "and more"} {
			d.Write(0, all[:n])
			d.Write(1, all[:n])
			d.Write(0, []byte(s))
			if b, _ := d.Read(0); len(b) > 0 {
				spoil(b)
			}
		}
		if !bytes.Equal(all, was) {
			t.Errorf("%d bytes: %q", n, all)
		}
	}
}

// TestWhatIsReadIsNew: who changes an answer, spare room included, changes neither a sector nor another answer.
func TestWhatIsReadIsNew(t *testing.T) {
	for _, s := range []string{"", "a", "abc", string(bytes.Repeat([]byte("z"), 64))} {
		d := sector.New(2)
		checkWrite(t, d, 0, s, api.OK)
		checkWrite(t, d, 1, "next", api.OK)
		first, _ := d.Read(0)
		second, _ := d.Read(0)
		spoil(first)
		if string(second) != s {
			t.Errorf("%q: another answer is %q", s, second)
		}
		checkRead(t, d, 0, s)
		checkRead(t, d, 1, "next")
	}
}

// TestAnAnswerStays: what is written behind it, shorter or longer, doesn't change it.
func TestAnAnswerStays(t *testing.T) {
	d := sector.New(2)
	checkWrite(t, d, 0, "abc", api.OK)
	b, _ := d.Read(0)
	empty, _ := d.Read(1)
	for _, s := range []string{"x", "xyz", "wxyz", ""} {
		checkWrite(t, d, 0, s, api.OK)
		checkWrite(t, d, 1, s, api.OK)
		if string(b) != "abc" || len(empty) != 0 {
			t.Errorf("behind a write of %q: %q, %q", s, b, empty)
		}
	}
	d.Fuse(0)
	checkWrite(t, d, 0, "down", api.ErrDown)
	d.Up()
	if string(b) != "abc" {
		t.Errorf("%q", b)
	}
}

// TestWhatWasReadIsWritten: a sector is copied to another one, and to itself.
func TestWhatWasReadIsWritten(t *testing.T) {
	d := sector.New(2)
	checkWrite(t, d, 0, "abc", api.OK)
	b, _ := d.Read(0)
	for at := range 2 {
		if e := d.Write(at, b); e != api.OK {
			t.Errorf("Write(%d, %q): %d", at, b, int(e))
		}
	}
	spoil(b)
	checkRead(t, d, 0, "abc")
	checkRead(t, d, 1, "abc")
}
