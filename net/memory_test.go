package net_test

import (
	"bytes"
	"slices"
	"testing"

	"gradine/api"
	"gradine/net"
)

// spoil writes all over b and its spare room.
func spoil(b []byte) {
	b = b[:cap(b)]
	for i := range b {
		b[i] = ^b[i]
	}
}

// TestWhatIsSentIsNotKept: who changes the frames, or the list of them, changes nothing that is on its way.
func TestWhatIsSentIsNotKept(t *testing.T) {
	n := net.New(2)
	b := append(make([]byte, 0, 100), "abc"...)
	other := []byte("other")
	l := append(make([][]byte, 0, 8), b, other, b)
	if n.Send(0, l) != 3 || n.Send(1, l) != 3 {
		t.Error("send")
	}
	l[0], l[1] = []byte("new"), nil
	spoil(b)
	spoil(other)
	checkWays(t, n, "abc other abc", "abc other abc")
}

// TestWhatIsHandedInStays: no call changes it, nor the spare room behind it, neither of the frames nor of the list.
func TestWhatIsHandedInStays(t *testing.T) {
	all := []byte("abcdefghij")
	was := slices.Clone(all)
	whole := [][]byte{all[:2], all[2:4], all[4:6], all[6:8]}
	for _, size := range []int{0, 1, 2, 3} {
		n := net.New(1)
		for range 3 {
			n.Send(0, whole[:size])
			n.Send(1, whole[:size])
			n.Send(0, framesOf("new - newer"))
			n.Turn(0, 0, n.Len(0)-1)
			n.Twice(0, 0)
			n.Lose(0, 1)
			if b, e := n.Take(0, 0); e == api.OK {
				spoil(b)
			}
			if b, e := n.Take(0, n.Len(0)-1); e == api.OK {
				spoil(b)
			}
		}
		n.Clear(0)
		n.Send(0, framesOf(numbered(most)))
		n.Send(0, whole[:size])
		if !bytes.Equal(all, was) {
			t.Fatalf("%d frames: %q", size, all)
		}
		for i, b := range whole {
			if len(b) != 2 || &b[0] != &all[2*i] {
				t.Fatalf("%d frames: the list has another one at %d", size, i)
			}
		}
	}
}

// TestWhatIsTakenIsNew: who changes it, spare room included, changes no other frame, be it a copy, or sent as the same bytes.
func TestWhatIsTakenIsNew(t *testing.T) {
	n := net.New(2)
	b := []byte("abc")
	n.Send(0, [][]byte{b, b, []byte("next")})
	n.Send(1, [][]byte{b})
	checkTwice(t, n, 0, 0, api.OK)
	checkTwice(t, n, 0, 3, api.OK)
	first, e := n.Take(0, 0)
	if e != api.OK {
		t.Fatal(int(e))
	}
	second, e := n.Take(0, 2)
	if e != api.OK {
		t.Fatal(int(e))
	}
	spoil(first)
	if string(second) != "abc" || string(b) != "abc" {
		t.Errorf("%q, %q", second, b)
	}
	spoil(second)
	checkWays(t, n, "abc next abc", "abc")
}

// TestWhatWasTakenStays: what is done behind it doesn't change it.
func TestWhatWasTakenStays(t *testing.T) {
	n := carrying(t, "abc defg abc")
	checkTwice(t, n, 0, 1, api.OK)
	b, e := n.Take(0, 1)
	if e != api.OK {
		t.Fatal(int(e))
	}
	for range 3 {
		checkSend(t, n, 0, "wxyz uvw", 2)
		checkTurn(t, n, 0, 0, 2, api.OK)
		checkTwice(t, n, 0, 1, api.OK)
		checkLose(t, n, 0, 1, api.OK)
		if c, e := n.Take(0, 0); e == api.OK {
			spoil(c)
		}
	}
	n.Clear(0)
	checkSend(t, n, 0, "wxyz", 1)
	if string(b) != "defg" {
		t.Errorf("%q", b)
	}
}

// TestWhatWasTakenIsSent: on its own way, and on another one.
func TestWhatWasTakenIsSent(t *testing.T) {
	n := carrying(t, "abc d", "e")
	b, _ := n.Take(0, 0)
	n.Send(0, [][]byte{b, b})
	n.Send(1, [][]byte{b})
	spoil(b)
	checkWays(t, n, "d abc abc", "e abc")
}
