package net_test

import (
	"bytes"
	"math"
	"strconv"
	"strings"
	"testing"

	"gradine/api"
	"gradine/net"
)

const most = 400 // frames on a way

// wrongPlaces are numbers of nothing, where there are n from 0 on.
func wrongPlaces(n int) []int {
	return []int{-1, -2, -n - 1, n, n + 1, 2*n + 1, most, most + 1, 1 << 32, math.MaxInt, math.MinInt}
}

// framesOf cuts a text at blanks: each word is a frame, - an empty one.
func framesOf(s string) [][]byte {
	var l [][]byte
	for _, w := range strings.Fields(s) {
		if w == "-" {
			w = ""
		}
		l = append(l, []byte(w))
	}
	return l
}

// numbered is n frames, each of which is another one.
func numbered(n int) string {
	var l []string
	for i := range n {
		l = append(l, strconv.Itoa(i))
	}
	return strings.Join(l, " ")
}

// carrying is a net whose ways have these frames.
func carrying(t *testing.T, ways ...string) *net.Net {
	t.Helper()
	n := net.New(len(ways))
	for way, s := range ways {
		checkSend(t, n, way, s, len(strings.Fields(s)))
	}
	return n
}

func checkSend(t *testing.T, n *net.Net, way int, s string, want int) {
	t.Helper()
	if got := n.Send(way, framesOf(s)); got != want {
		t.Errorf("Send(%d, %q): %d, not %d", way, s, got, want)
	}
}

func checkTake(t *testing.T, n *net.Net, way, i int, want string) {
	t.Helper()
	if b, e := n.Take(way, i); string(b) != want || e != api.OK {
		t.Errorf("Take(%d, %d): %q %d, not %q", way, i, b, int(e), want)
	}
}

// checkNoTake tells where there is a frame, or something is answered beside the error.
func checkNoTake(t *testing.T, n *net.Net, way, i int, want api.Errno) {
	t.Helper()
	if b, e := n.Take(way, i); len(b) != 0 || e != want {
		t.Errorf("Take(%d, %d): %q %d, not %d", way, i, b, int(e), int(want))
	}
}

func checkTwice(t *testing.T, n *net.Net, way, i int, want api.Errno) {
	t.Helper()
	if e := n.Twice(way, i); e != want {
		t.Errorf("Twice(%d, %d): %d, not %d", way, i, int(e), int(want))
	}
}

func checkLose(t *testing.T, n *net.Net, way, i int, want api.Errno) {
	t.Helper()
	if e := n.Lose(way, i); e != want {
		t.Errorf("Lose(%d, %d): %d, not %d", way, i, int(e), int(want))
	}
}

func checkTurn(t *testing.T, n *net.Net, way, i, k int, want api.Errno) {
	t.Helper()
	if e := n.Turn(way, i, k); e != want {
		t.Errorf("Turn(%d, %d, %d): %d, not %d", way, i, k, int(e), int(want))
	}
}

// checkLens tells how many are on each way, and on all of them.
func checkLens(t *testing.T, n *net.Net, want ...int) {
	t.Helper()
	all := 0
	for way, k := range want {
		if n.Len(way) != k {
			t.Errorf("%d on way %d, not %d", n.Len(way), way, k)
		}
		all += k
	}
	if n.All() != all {
		t.Errorf("%d on all ways, not %d", n.All(), all)
	}
}

// checkWays takes all that is on the ways, which must be this.
func checkWays(t *testing.T, n *net.Net, want ...string) {
	t.Helper()
	for way, s := range want {
		l := framesOf(s)
		if n.Len(way) != len(l) {
			t.Errorf("%d on way %d, not %d", n.Len(way), way, len(l))
		}
		for _, b := range l {
			checkTake(t, n, way, 0, string(b))
		}
		checkNoTake(t, n, way, 0, api.ErrNone)
	}
	if n.All() != 0 {
		t.Errorf("%d are left", n.All())
	}
}

func TestNew(t *testing.T) {
	for ways, want := range map[int]int{
		0: 0, 1: 1, 2: 2, 10: 10, 31: 31, 32: 32,
		-1: 0, -32: 0, math.MinInt: 0, 33: 32, 64: 32, 1 << 32: 32, math.MaxInt: 32,
	} {
		n := net.New(ways)
		if n == nil || n.All() != 0 {
			t.Fatalf("New(%d): %v", ways, n)
		}
		for way := range 70 {
			is := 0
			if way < want {
				is = 1
			}
			if n.Len(way) != 0 {
				t.Errorf("New(%d): %d on way %d", ways, n.Len(way), way)
			}
			checkNoTake(t, n, way, 0, api.ErrNone)
			checkSend(t, n, way, "a", is)
		}
		if n.All() != want {
			t.Errorf("New(%d): %d ways, not %d", ways, n.All(), want)
		}
	}
}

// TestNetsAreApart: what is on one is on no other one.
func TestNetsAreApart(t *testing.T) {
	a, b := net.New(2), net.New(2)
	checkSend(t, a, 1, "x y", 2)
	checkLens(t, b, 0, 0)
	checkSend(t, b, 1, "z", 1)
	a.Clear(1)
	checkWays(t, b, "", "z")
	checkWays(t, a, "", "")
}

// TestInOrder: frames come as they were sent, be it at once or one by one.
func TestInOrder(t *testing.T) {
	n := net.New(1)
	checkSend(t, n, 0, "a b", 2)
	checkSend(t, n, 0, "c", 1)
	checkSend(t, n, 0, "", 0)
	checkSend(t, n, 0, "d a e", 3)
	checkLens(t, n, 6)
	checkTake(t, n, 0, 0, "a")
	checkSend(t, n, 0, "f", 1)
	checkWays(t, n, "b c d a e f")
}

func TestSendOfNothing(t *testing.T) {
	n := carrying(t, "a")
	if n.Send(0, nil) != 0 || n.Send(0, [][]byte{}) != 0 || n.Send(1, nil) != 0 || n.Send(-1, nil) != 0 {
		t.Error("nothing counts")
	}
	checkWays(t, n, "a")
}

// TestEmptyFrames: these are frames, too, nil or not.
func TestEmptyFrames(t *testing.T) {
	n := net.New(1)
	if got := n.Send(0, [][]byte{nil, {}, {1}, nil}); got != 4 {
		t.Error(got)
	}
	checkTwice(t, n, 0, 1, api.OK)
	checkTurn(t, n, 0, 0, 2, api.OK)
	checkLens(t, n, 5)
	checkWays(t, n, "\x01 - - - -")
}

// TestAnyBytes: each byte is as it was, in frames short and long.
func TestAnyBytes(t *testing.T) {
	n := net.New(1)
	for _, size := range []int{1, 2, 31, 32, 33, 128, 255, 256, 5000, 1 << 20} {
		b := make([]byte, size)
		for i := range b {
			b[i] = byte(i*7 + size)
		}
		if got := n.Send(0, [][]byte{b, b}); got != 2 {
			t.Error(got)
		}
		checkTwice(t, n, 0, 0, api.OK)
		for range 3 {
			if got, e := n.Take(0, 0); e != api.OK || !bytes.Equal(got, b) {
				t.Errorf("%d bytes: another frame, %d", size, int(e))
			}
		}
	}
	for c := range 256 {
		if got := n.Send(0, [][]byte{{byte(c)}}); got != 1 {
			t.Error(got)
		}
		checkTake(t, n, 0, 0, string([]byte{byte(c)}))
	}
}

// TestTakeAtEachPlace: the others stay in their order, whichever is taken.
func TestTakeAtEachPlace(t *testing.T) {
	for size := 1; size <= 6; size++ {
		for i := range size {
			n := carrying(t, "other", numbered(size))
			checkTake(t, n, 1, i, strconv.Itoa(i))
			checkLens(t, n, 1, size-1)
			checkSend(t, n, 1, "new", 1)
			l := append(strings.Fields(numbered(size)), "new")
			checkWays(t, n, "other", strings.Join(append(l[:i], l[i+1:]...), " "))
		}
	}
}

// TestLoseAtEachPlace: likewise, and nothing is answered.
func TestLoseAtEachPlace(t *testing.T) {
	for size := 1; size <= 6; size++ {
		for i := range size {
			n := carrying(t, "other", numbered(size))
			checkLose(t, n, 1, i, api.OK)
			checkLens(t, n, 1, size-1)
			checkSend(t, n, 1, "new", 1)
			l := append(strings.Fields(numbered(size)), "new")
			checkWays(t, n, "other", strings.Join(append(l[:i], l[i+1:]...), " "))
		}
	}
}

// TestTwiceAtEachPlace: the copy is behind all, and the frame stays where it is.
func TestTwiceAtEachPlace(t *testing.T) {
	for size := 1; size <= 6; size++ {
		for i := range size {
			n := carrying(t, "other", numbered(size))
			checkTwice(t, n, 1, i, api.OK)
			checkLens(t, n, 1, size+1)
			checkSend(t, n, 1, "new", 1)
			checkWays(t, n, "other", numbered(size)+" "+strconv.Itoa(i)+" new")
		}
	}
}

// TestCopiesAreFrames: a copy is doubled, taken and lost like others, and its frame may be gone by then.
func TestCopiesAreFrames(t *testing.T) {
	n := carrying(t, "a b")
	checkTwice(t, n, 0, 0, api.OK)
	checkTwice(t, n, 0, 2, api.OK)
	checkLose(t, n, 0, 0, api.OK)
	checkTake(t, n, 0, 1, "a")
	checkTwice(t, n, 0, 1, api.OK)
	checkLose(t, n, 0, 1, api.OK)
	checkWays(t, n, "b a")
}

// TestTurnAtEachPlace: the two change places, either way round; one with itself stays.
func TestTurnAtEachPlace(t *testing.T) {
	for size := 1; size <= 5; size++ {
		for i := range size {
			for k := range size {
				n := carrying(t, "other", numbered(size))
				checkTurn(t, n, 1, i, k, api.OK)
				checkLens(t, n, 1, size)
				checkSend(t, n, 1, "new", 1)
				l := strings.Fields(numbered(size))
				l[i], l[k] = l[k], l[i]
				checkWays(t, n, "other", strings.Join(l, " ")+" new")
			}
		}
	}
}

// TestClear: all on the way are gone, nothing else is; it is a way like others then.
func TestClear(t *testing.T) {
	n := carrying(t, "a b", "c d", "e")
	n.Clear(1)
	checkLens(t, n, 2, 0, 1)
	checkNoTake(t, n, 1, 0, api.ErrNone)
	n.Clear(1)
	checkSend(t, n, 1, "f g", 2)
	checkWays(t, n, "a b", "f g", "e")
	n.Clear(0)
	checkLens(t, n, 0, 0, 0)
}

// TestEachWayIsItsOwn: on each of as many ways as there may be, what was sent on it.
func TestEachWayIsItsOwn(t *testing.T) {
	n := net.New(32)
	for way := range 32 {
		checkSend(t, n, way, numbered(way), way)
	}
	if n.All() != 31*32/2 {
		t.Error(n.All())
	}
	var want []string
	for way := range 32 {
		want = append(want, numbered(way))
	}
	checkWays(t, n, want...)
}
