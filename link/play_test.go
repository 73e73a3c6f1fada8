package link_test

import (
	"bytes"
	"fmt"
	"strconv"
	"strings"
	"testing"

	"gradine/api"
	"gradine/frame"
	"gradine/link"
)

const great = 1 << 40

// begin is an end with that boot.
func begin(t *testing.T, boot int) *link.End {
	t.Helper()
	e, bad := link.New(boot)
	if bad != api.OK || e == nil {
		t.Fatalf("New(%d): %v %d", boot, e, int(bad))
	}
	return e
}

// put is the bytes of a packet.
func put(t *testing.T, p api.Packet) []byte {
	t.Helper()
	b, bad := frame.Put(p)
	if bad != api.OK {
		t.Fatalf("%v is no packet: %d", p, int(bad))
	}
	return b
}

// long is a load of so many bytes.
func long(n int) []byte { return bytes.Repeat([]byte("x"), n) }

// A line's packets are Mine/Yours/Seq/Ack/Load, its loads texts; 3*x is a load of three bytes.

func textOf(p api.Packet) string {
	return fmt.Sprintf("%d/%d/%d/%d/%s", p.Mine, p.Yours, p.Seq, p.Ack, p.Load)
}

func loadOf(s string) []byte {
	if n, c, is := strings.Cut(s, "*"); is {
		many, _ := strconv.Atoi(n)
		return []byte(strings.Repeat(c, many))
	}
	return []byte(s)
}

func packetOf(s string) api.Packet {
	l := strings.SplitN(s, "/", 5)
	var n [4]int
	for i := range n {
		n[i], _ = strconv.Atoi(l[i])
	}
	return api.Packet{Mine: n[0], Yours: n[1], Seq: n[2], Ack: n[3], Load: loadOf(l[4])}
}

// toldOf is what is told, as words.
func toldOf(out [][]byte) string {
	var l []string
	for _, b := range out {
		p, bad := frame.Get(b)
		if bad != api.OK {
			l = append(l, fmt.Sprintf("no packet (%x)", b))
			continue
		}
		l = append(l, textOf(p))
	}
	return strings.Join(l, " ")
}

// heardOf is what was heard, and what is told to it, as words.
func heardOf(h link.Heard, out [][]byte) string {
	var l []string
	if h.Reset {
		l = append(l, "reset")
	}
	if h.Up {
		l = append(l, "up")
	}
	for _, b := range h.Loads {
		l = append(l, "+"+string(b))
	}
	if len(out) > 0 {
		l = append(l, toldOf(out))
	}
	return strings.Join(l, " ")
}

// stateOf is what can be asked of an end: both boots, whether it is up, how many loads wait, the timer.
func stateOf(e *link.End) string {
	mine, yours := e.Boots()
	is := "down"
	if e.IsUp() {
		is = "up"
	}
	return fmt.Sprintf("%d %d %s %d %d", mine, yours, is, e.Waits(), e.Timer())
}

// do does what a line says, and answers what that answers.
func do(t *testing.T, e *link.End, line string) string {
	t.Helper()
	word, rest, _ := strings.Cut(line, " ")
	switch word {
	case "tick":
		return toldOf(e.Tick())
	case "take":
		return heardOf(e.Take(put(t, packetOf(rest))))
	case "send":
		out, bad := e.Send(loadOf(rest))
		if bad != api.OK {
			return strings.TrimSpace(fmt.Sprintf("error %d %s", int(bad), toldOf(out)))
		}
		return toldOf(out)
	case "is":
		return stateOf(e)
	}
	t.Fatalf("%q is no line", line)
	return ""
}

// play does line by line, each of which tells behind an arrow what it is to answer.
func play(t *testing.T, e *link.End, lines string) {
	t.Helper()
	for i, line := range strings.Split(strings.TrimSpace(lines), "\n") {
		act, want, is := strings.Cut(strings.TrimSpace(line), "->")
		if !is {
			t.Fatalf("%q is no line", line)
		}
		act, want = strings.TrimSpace(act), strings.TrimSpace(want)
		if got := do(t, e, act); got != want {
			t.Fatalf("line %d, %s: %q, not %q", i+1, act, got, want)
		}
	}
}

// standing is an end of boot 2 that is up with one of boot 5, where so many loads wait, of "1" on.
func standing(t *testing.T, waits int) *link.End {
	t.Helper()
	e := begin(t, 2)
	play(t, e, `take 5/2/0/0/ -> reset up`)
	for i := range waits {
		if _, bad := e.Send([]byte(strconv.Itoa(i + 1))); bad != api.OK {
			t.Fatalf("load %d: %d", i+1, int(bad))
		}
	}
	return e
}
