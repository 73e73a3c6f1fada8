package link_test

import (
	"fmt"
	"math"
	"testing"

	"gradine/api"
	"gradine/link"
)

func TestNew(t *testing.T) {
	for _, boot := range []int{1, 2, 127, 128, api.MaxBoot, api.MaxBoot + 1, 1 << 32, great - 1, great} {
		e := begin(t, boot)
		if got, want := stateOf(e), fmt.Sprintf("%d 0 down 0 2", boot); got != want {
			t.Errorf("New(%d): %q, not %q", boot, got, want)
		}
		e.Tick()
		if got, want := toldOf(e.Tick()), fmt.Sprintf("%d/0/0/0/", boot); got != want {
			t.Errorf("New(%d): tells %q, not %q", boot, got, want)
		}
	}
	for _, boot := range []int{0, -1, -2, -great, math.MinInt, great + 1, great + 2, 2 * great, 2*great + 1, 1 << 62, math.MaxInt} {
		if e, bad := link.New(boot); e != nil || bad != api.ErrArg {
			t.Errorf("New(%d): %v %d", boot, e, int(bad))
		}
	}
}

// TestExample is the chapter's: two ends of boot 1.
func TestExample(t *testing.T) {
	a, b := begin(t, 1), begin(t, 1)
	talk := func(from, to *link.End, out [][]byte) {
		for len(out) > 0 {
			var answers [][]byte
			for _, p := range out {
				_, l := to.Take(p)
				answers = append(answers, l...)
			}
			from, to, out = to, from, answers
		}
	}
	for range 4 {
		talk(a, b, a.Tick())
	}
	if !a.IsUp() || b.IsUp() {
		t.Error("after the first four", stateOf(a), stateOf(b))
	}
	for range 4 {
		talk(b, a, b.Tick())
	}
	if stateOf(a) != "1 1 up 0 0" || stateOf(b) != "1 1 up 0 0" {
		t.Error(stateOf(a), stateOf(b))
	}
}

// TestBytesOfAGreeting are layer 7's own example.
func TestBytesOfAGreeting(t *testing.T) {
	e := begin(t, 1)
	e.Tick()
	if out := e.Tick(); len(out) != 1 || string(out[0]) != "\x01\x00\x00\x00\x00\x01" {
		t.Errorf("%x", out)
	}
}

// TestSendWaits: as long as it isn't up nothing can be sent, whatever the load is.
func TestSendWaits(t *testing.T) {
	e := begin(t, 2)
	play(t, e, `
		send a     -> error 16
		send       -> error 16
		send 129*x -> error 16
		is         -> 2 0 down 0 2
		take 5/1/0/0/ -> reset 2/5/0/0/
		send a     -> error 16
		send       -> error 16
		send 129*x -> error 16
		is         -> 2 5 down 0 2
		take 5/2/0/0/ -> up
		send a     -> 2/5/1/0/a
		take 6/1/0/0/ -> reset 2/6/0/0/
		send a     -> error 16
		is         -> 2 6 down 0 2
	`)
}

func TestSendOfLoads(t *testing.T) {
	for _, n := range []int{1, 2, 127, 128} {
		e := standing(t, 0)
		play(t, e, fmt.Sprintf("send %d*x -> 2/5/1/0/%s", n, long(n)))
		play(t, e, `is -> 2 5 up 1 2`)
	}
	for _, n := range []int{0, 129, 130, 255, 256, 384, 1 << 16} {
		e := standing(t, 0)
		play(t, e, fmt.Sprintf("send %d*x -> error 4", n))
		play(t, e, `
			is     -> 2 5 up 0 0
			send a -> 2/5/1/0/a
		`)
	}
	for _, load := range [][]byte{nil, {}, make([]byte, 0, 9)} {
		e := standing(t, 0)
		if out, bad := e.Send(load); bad != api.ErrFull || len(out) != 0 {
			t.Errorf("%#v: %v %d", load, out, int(bad))
		}
	}
}

// TestSendOfAnyBytes: a load may be any bytes, and comes as it was sent.
func TestSendOfAnyBytes(t *testing.T) {
	for c := range 256 {
		a, b := standing(t, 0), begin(t, 5)
		out, bad := a.Send([]byte{byte(c), 0, byte(c)})
		if bad != api.OK || len(out) != 1 {
			t.Fatalf("%d: %v %d", c, out, int(bad))
		}
		if h, _ := b.Take(out[0]); len(h.Loads) != 1 || string(h.Loads[0]) != string([]byte{byte(c), 0, byte(c)}) {
			t.Errorf("%d: %v", c, h)
		}
	}
}

// TestSendTellsTheFirstEight: those behind them wait, and nothing is told.
func TestSendTellsTheFirstEight(t *testing.T) {
	e := standing(t, 0)
	for n := 1; n <= api.MaxQueue; n++ {
		want := ""
		if n <= 8 {
			want = fmt.Sprintf("2/5/%d/0/%d", n, n)
		}
		play(t, e, fmt.Sprintf("send %d -> %s", n, want))
		if e.Waits() != n {
			t.Fatalf("%d wait, not %d", e.Waits(), n)
		}
	}
}

func TestSendWhereMaxQueueWait(t *testing.T) {
	e := standing(t, api.MaxQueue)
	play(t, e, `
		is     -> 2 5 up 256 2
		send a -> error 4
		send   -> error 4
		send 129*x -> error 4
		is     -> 2 5 up 256 2
		take 5/2/0/1/ -> 2/5/9/0/9
		send a -> 
		send b -> error 4
		is     -> 2 5 up 256 2
		take 5/2/0/9/ -> 2/5/10/0/10 2/5/11/0/11 2/5/12/0/12 2/5/13/0/13 2/5/14/0/14 2/5/15/0/15 2/5/16/0/16 2/5/17/0/17
		is     -> 2 5 up 248 2
	`)
	for n := 10; n < 250; n += 8 {
		e.Take(put(t, api.Packet{Mine: 5, Yours: 2, Ack: n + 7}))
	}
	play(t, e, `
		is   -> 2 5 up 8 2
		tick ->
		tick -> 2/5/250/0/250 2/5/251/0/251 2/5/252/0/252 2/5/253/0/253 2/5/254/0/254 2/5/255/0/255 2/5/256/0/256 2/5/257/0/a
		send c -> 
		take 5/2/0/257/ -> 2/5/258/0/c
	`)
}

// TestSendTellsWhatCame: each packet says how many loads came.
func TestSendTellsWhatCame(t *testing.T) {
	play(t, standing(t, 0), `
		send a -> 2/5/1/0/a
		take 5/2/1/0/x -> +x 2/5/0/1/
		send b -> 2/5/2/1/b
		take 5/2/2/0/y -> +y 2/5/0/2/
		take 5/2/9/0/z -> 2/5/0/2/
		send c -> 2/5/3/2/c
		tick -> 
		tick -> 2/5/1/2/a 2/5/2/2/b 2/5/3/2/c
	`)
}

func TestNilEnd(t *testing.T) {
	var e *link.End
	for _, load := range [][]byte{nil, []byte("a"), long(128), long(129)} {
		if out, bad := e.Send(load); bad != api.ErrNil || out != nil {
			t.Error(out, bad)
		}
	}
	for _, b := range [][]byte{nil, {1}, put(t, api.Packet{Mine: 1}), put(t, api.Packet{Mine: 1, Seq: 1, Load: []byte("a")})} {
		if got := heardOf(e.Take(b)); got != "" {
			t.Error(got)
		}
	}
	if out := e.Tick(); out != nil {
		t.Error(out)
	}
	if got := stateOf(e); got != "0 0 down 0 0" {
		t.Error(got)
	}
}

// TestEndsAreApart: what one has been through another one doesn't tell.
func TestEndsAreApart(t *testing.T) {
	a, b := standing(t, 3), begin(t, 2)
	play(t, a, `take 5/2/1/1/x -> +x 2/5/0/1/`)
	play(t, b, `
		is     -> 2 0 down 0 2
		send a -> error 16
		take 7/2/0/0/ -> reset up
		send a -> 2/7/1/0/a
	`)
	play(t, a, `
		tick ->
		tick -> 2/5/2/1/2 2/5/3/1/3
		is   -> 2 5 up 2 4
	`)
}
