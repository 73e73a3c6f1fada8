package link_test

import (
	"fmt"
	"testing"

	"gradine/api"
	"gradine/link"
)

// checkTimer lets an end tick till its timer went off so many times as spans are, of so many ticks each, and told what is wanted.
func checkTimer(t *testing.T, e *link.End, want string, spans ...int) {
	t.Helper()
	for i, span := range spans {
		for left := span; left > 0; left-- {
			if e.Timer() != left {
				t.Fatalf("span %d: %d left, not %d", i, e.Timer(), left)
			}
			told := ""
			if left == 1 {
				told = want
			}
			if got := toldOf(e.Tick()); got != told {
				t.Fatalf("span %d, %d left: %q, not %q", i, left, got, told)
			}
		}
	}
}

func TestTimerTillUp(t *testing.T) {
	e := begin(t, 2)
	checkTimer(t, e, "2/0/0/0/", 2, 4, 8, 8, 8, 8)
	// A Reset, of an end that isn't up either: it begins anew, and Yours stays 0.
	play(t, e, `
		tick ->
		take 5/0/0/0/ -> reset 2/5/0/0/
	`)
	checkTimer(t, e, "2/0/0/0/", 2, 4, 8, 8)
	// No Reset, nor Up: the timer goes on.
	play(t, e, `
		tick ->
		tick ->
		tick ->
		take 5/0/0/0/ -> 2/5/0/0/
		is -> 2 5 down 0 5
		take 4/2/0/0/ ->
		is -> 2 5 down 0 5
		send a -> error 16
		is -> 2 5 down 0 5
		take 5/2/0/0/ -> up
		is -> 2 5 up 0 0
		send a -> 2/5/1/0/a
	`)
	checkTimer(t, e, "2/5/1/0/a", 2, 4, 8, 8)
}

// TestTimerAtRest: it doesn't run where the end is up and nothing waits.
func TestTimerAtRest(t *testing.T) {
	e := standing(t, 0)
	for range 20 {
		play(t, e, `
			tick ->
			is   -> 2 5 up 0 0
		`)
	}
	play(t, e, `send a -> 2/5/1/0/a`)
	checkTimer(t, e, "2/5/1/0/a", 2, 4)
	play(t, e, `
		take 5/2/0/1/ ->
		is   -> 2 5 up 0 0
		tick ->
		send b -> 2/5/2/0/b
	`)
	checkTimer(t, e, "2/5/2/0/b", 2, 4, 8, 8)
}

// TestTimerOfOpenLoads: all open ones are told again, in order, and no others.
func TestTimerOfOpenLoads(t *testing.T) {
	for waits := 1; waits <= 12; waits++ {
		e := standing(t, waits)
		var all [][]byte
		for n := 1; n <= min(waits, 8); n++ {
			all = append(all, put(t, api.Packet{Mine: 2, Yours: 5, Seq: n, Load: fmt.Append(nil, n)}))
		}
		checkTimer(t, e, toldOf(all), 2, 4, 8, 8, 8)
		play(t, e, fmt.Sprintf("is -> 2 5 up %d 8", waits))
	}
}

// TestTimerGoesOnWhereLoadsAreSent: it begins with the first that waits; another one is no beginning.
func TestTimerGoesOnWhereLoadsAreSent(t *testing.T) {
	play(t, standing(t, 0), `
		tick ->
		send a -> 2/5/1/0/a
		is   -> 2 5 up 1 2
		tick ->
		send b -> 2/5/2/0/b
		is   -> 2 5 up 2 1
		tick -> 2/5/1/0/a 2/5/2/0/b
		send c -> 2/5/3/0/c
		is   -> 2 5 up 3 4
		tick ->
		send 129*x -> error 4
		is   -> 2 5 up 3 3
		take 5/2/1/0/x -> +x 2/5/0/1/
		take 5/2/0/0/ ->
		take 5/2/0/4/ ->
		is   -> 2 5 up 3 3
		tick ->
		tick ->
		tick -> 2/5/1/1/a 2/5/2/1/b 2/5/3/1/c
		is   -> 2 5 up 3 8
	`)
}

// TestTimerWithAnAck: it begins anew, with 2, whatever it was at, as long as something waits.
func TestTimerWithAnAck(t *testing.T) {
	for ticks := range 24 {
		e := standing(t, 2)
		for range ticks {
			e.Tick()
		}
		play(t, e, `
			take 5/2/0/1/ ->
			is -> 2 5 up 1 2
		`)
		checkTimer(t, e, "2/5/2/0/2", 2, 4, 8, 8)
	}
}

// TestTimerWithAReset: it begins anew, with 2; with an Up as well, and where both come at once there is nothing to wait for.
func TestTimerWithAReset(t *testing.T) {
	for ticks := range 24 {
		e, f, g := standing(t, 2), standing(t, 2), begin(t, 2)
		play(t, g, `take 5/0/0/0/ -> reset 2/5/0/0/`)
		for range ticks {
			e.Tick()
			f.Tick()
			g.Tick()
		}
		play(t, e, `
			take 6/0/0/0/ -> reset 2/6/0/0/
			is -> 2 6 down 0 2
		`)
		checkTimer(t, e, "2/0/0/0/", 2, 4, 8, 8)
		play(t, f, `
			take 6/2/0/0/ -> reset up
			is -> 2 6 up 0 0
			send a -> 2/6/1/0/a
		`)
		checkTimer(t, f, "2/6/1/0/a", 2, 4, 8, 8)
		play(t, g, `
			take 5/2/0/0/ -> up
			is -> 2 5 up 0 0
			send a -> 2/5/1/0/a
		`)
		checkTimer(t, g, "2/5/1/0/a", 2, 4, 8, 8)
	}
}
