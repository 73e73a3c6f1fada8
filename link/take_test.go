package link_test

import (
	"fmt"
	"slices"
	"strings"
	"testing"

	"gradine/api"
	"gradine/frame"
)

// TestTakeOfNoPacket: of bytes that are none nothing is heard, told or changed.
func TestTakeOfNoPacket(t *testing.T) {
	right := put(t, api.Packet{Mine: 5, Yours: 2, Seq: 1, Ack: 1, Load: []byte("x")})
	wrong := [][]byte{nil, {}, {0}, {1}, []byte("\x00\x00\x00\x00\x00\x00"), []byte("\x00\x02\x00\x00\x00\x04"), append(slices.Clone(right), 0)}
	for i := range right {
		wrong = append(wrong, right[:i])
		for bit := range 8 {
			b := slices.Clone(right)
			b[i] ^= 1 << bit
			if _, bad := frame.Get(b); bad != api.OK {
				wrong = append(wrong, b)
			}
		}
	}
	for _, b := range wrong {
		e := standing(t, 1)
		play(t, e, `tick ->`)
		if got := heardOf(e.Take(b)); got != "" {
			t.Errorf("%x: %q", b, got)
		}
		play(t, e, `
			is   -> 2 5 up 1 1
			tick -> 2/5/1/0/1
			take 5/2/1/1/x -> +x 2/5/0/1/
		`)
	}
}

// TestTakeOfALesserBoot: nothing, whatever else the packet tells.
func TestTakeOfALesserBoot(t *testing.T) {
	for _, p := range []string{"4/2/1/1/x", "4/2/0/1/", "4/2/0/0/", "4/0/0/0/", "4/9/1/1/x", "1/2/1/1/x"} {
		e := standing(t, 1)
		play(t, e, `tick ->`)
		play(t, e, "take "+p+" ->")
		play(t, e, `
			is   -> 2 5 up 1 1
			tick -> 2/5/1/0/1
		`)
		down := begin(t, 2)
		play(t, down, `take 5/0/0/0/ -> reset 2/5/0/0/`)
		play(t, down, "take "+p+" ->")
		play(t, down, `is -> 2 5 down 0 2`)
	}
}

// TestTakeOfAGreaterBoot: all begins anew, also where the packet brings the end up at once.
func TestTakeOfAGreaterBoot(t *testing.T) {
	for _, boot := range []int{6, 7, 300, great} {
		e := standing(t, 20)
		play(t, e, `
			take 5/2/1/0/x -> +x 2/5/0/1/
			take 5/2/2/0/y -> +y 2/5/0/2/
			tick ->
		`)
		play(t, e, fmt.Sprintf(`
			take %[1]d/1/3/3/z -> reset 2/%[1]d/0/0/
			is -> 2 %[1]d down 0 2
			take 5/2/3/3/z ->
			take %[1]d/2/3/3/z -> up 2/%[1]d/0/0/
			take %[1]d/2/1/0/z -> +z 2/%[1]d/0/1/
			is -> 2 %[1]d up 0 0
			send a -> 2/%[1]d/1/1/a
			take %[1]d/2/0/2/ ->
			is -> 2 %[1]d up 1 2
		`, boot))
	}
	play(t, standing(t, 20), `
		take 5/2/1/0/x -> +x 2/5/0/1/
		take 6/2/1/9/y -> reset up +y 2/6/0/1/
		is -> 2 6 up 0 0
		send a -> 2/6/1/1/a
	`)
}

// TestTakeFirst: the first packet of all is a Reset, as its boot is more than 0.
func TestTakeFirst(t *testing.T) {
	for _, c := range []struct{ act, heard, state string }{
		{"take 1/0/0/0/", "reset 2/1/0/0/", "2 1 down 0 2"},
		{"take 1/1/0/0/", "reset 2/1/0/0/", "2 1 down 0 2"},
		{"take 1/3/0/0/", "reset 2/1/0/0/", "2 1 down 0 2"},
		{"take 1/3/1/0/x", "reset 2/1/0/0/", "2 1 down 0 2"},
		{"take 1/2/0/0/", "reset up", "2 1 up 0 0"},
		{"take 1/2/1/0/x", "reset up +x 2/1/0/1/", "2 1 up 0 0"},
		{"take 1/2/2/0/x", "reset up 2/1/0/0/", "2 1 up 0 0"},
		{"take 1/2/0/1/", "reset up", "2 1 up 0 0"},
		{"take 1099511627776/2/0/1099511627776/", "reset up", "2 1099511627776 up 0 0"},
	} {
		e := begin(t, 2)
		play(t, e, c.act+" -> "+c.heard)
		play(t, e, "is -> "+c.state)
	}
}

// TestTakeOfAnotherYours: a greeting, and that is all: nothing comes, nothing is acknowledged, the timer runs on.
func TestTakeOfAnotherYours(t *testing.T) {
	for _, yours := range []int{0, 1, 3, 5, 258, great} {
		e := standing(t, 9)
		play(t, e, `take 5/2/1/0/x -> +x 2/5/0/1/
			tick ->`)
		play(t, e, fmt.Sprintf(`
			take 5/%[1]d/2/3/y -> 2/5/0/1/
			take 5/%[1]d/0/3/ -> 2/5/0/1/
			is -> 2 5 up 9 1
			tick -> 2/5/1/1/1 2/5/2/1/2 2/5/3/1/3 2/5/4/1/4 2/5/5/1/5 2/5/6/1/6 2/5/7/1/7 2/5/8/1/8
			take 5/2/2/0/y -> +y 2/5/0/2/
		`, yours))
		down := begin(t, 2)
		play(t, down, fmt.Sprintf(`
			take 5/%[1]d/1/0/x -> reset 2/5/0/0/
			take 5/%[1]d/1/0/x -> 2/5/0/0/
			is -> 2 5 down 0 2
		`, yours))
	}
}

// TestUpOnce: it is up with the first packet that tells so, and no further one says it again.
func TestUpOnce(t *testing.T) {
	play(t, begin(t, 2), `
		take 5/0/0/0/ -> reset 2/5/0/0/
		take 5/0/0/0/ -> 2/5/0/0/
		take 5/2/0/0/ -> up
		is -> 2 5 up 0 0
		take 5/2/0/0/ ->
		take 5/2/1/0/x -> +x 2/5/0/1/
		take 5/0/0/0/ -> 2/5/0/1/
		take 5/2/0/0/ ->
		is -> 2 5 up 0 0
		take 6/0/0/0/ -> reset 2/6/0/0/
		take 6/2/1/0/y -> up +y 2/6/0/1/
		take 6/2/1/0/y -> 2/6/0/1/
	`)
}

// TestAcknowledge: of each Ack, where from none to eleven loads wait, how many are left.
func TestAcknowledge(t *testing.T) {
	for waits := range 12 {
		told := min(waits, 8)
		for ack := range 14 {
			e := standing(t, waits)
			left, timer := waits, min(waits, 1)
			if ack > 0 && ack <= told {
				left -= ack
				timer = min(left, 1) * 2
			}
			var want [][]byte
			for n := told + 1; n <= waits && n <= waits-left+8; n++ {
				want = append(want, put(t, api.Packet{Mine: 2, Yours: 5, Seq: n, Load: fmt.Append(nil, n)}))
			}
			e.Tick()
			if got := heardOf(e.Take(put(t, api.Packet{Mine: 5, Yours: 2, Ack: ack}))); got != toldOf(want) {
				t.Errorf("%d wait, Ack %d: %q, not %q", waits, ack, got, toldOf(want))
			}
			play(t, e, fmt.Sprintf("is -> 2 5 up %d %d", left, timer))
		}
	}
}

// TestAcknowledgeInTurn: an Ack counts from the session's beginning, one that was heard already does nothing.
func TestAcknowledgeInTurn(t *testing.T) {
	play(t, standing(t, 10), `
		take 5/2/0/3/ -> 2/5/9/0/9 2/5/10/0/10
		tick ->
		take 5/2/0/3/ ->
		take 5/2/0/2/ ->
		take 5/2/0/1/ ->
		take 5/2/0/0/ ->
		take 5/2/0/11/ ->
		take 5/2/0/1099511627776/ ->
		is   -> 2 5 up 7 1
		tick -> 2/5/4/0/4 2/5/5/0/5 2/5/6/0/6 2/5/7/0/7 2/5/8/0/8 2/5/9/0/9 2/5/10/0/10
		is   -> 2 5 up 7 4
		take 5/2/0/4/ ->
		is   -> 2 5 up 6 2
		send a -> 2/5/11/0/a
		send b -> 2/5/12/0/b
		send c ->
		take 5/2/0/13/ ->
		is   -> 2 5 up 9 2
		take 5/2/0/12/ -> 2/5/13/0/c
		take 5/2/0/13/ ->
		is   -> 2 5 up 0 0
		take 5/2/0/13/ ->
		send d -> 2/5/14/0/d
	`)
}

// TestSeq: loads come in order, each once; each packet that has a number is acknowledged.
func TestSeq(t *testing.T) {
	play(t, standing(t, 0), `
		take 5/2/2/0/y -> 2/5/0/0/
		take 5/2/1099511627776/0/y -> 2/5/0/0/
		take 5/2/1/0/x -> +x 2/5/0/1/
		take 5/2/1/0/x -> 2/5/0/1/
		take 5/2/3/0/z -> 2/5/0/1/
		take 5/2/2/0/y -> +y 2/5/0/2/
		take 5/2/1/0/x -> 2/5/0/2/
		take 5/2/0/0/ ->
		take 5/2/3/0/ -> + 2/5/0/3/
		take 5/2/4/0/128*z -> +`+strings.Repeat("z", 128)+` 2/5/0/4/
		is -> 2 5 up 0 0
	`)
}

// TestManyCome: more than can be open, and more than can wait, one behind the other.
func TestManyCome(t *testing.T) {
	e := standing(t, 0)
	for n := 1; n <= 1000; n++ {
		play(t, e, fmt.Sprintf("take 5/2/%[1]d/0/l%[1]d -> +l%[1]d 2/5/0/%[1]d/", n))
	}
}

// TestAcknowledgeWithALoad: first what is open now is told, then the load comes, then it is acknowledged.
func TestAcknowledgeWithALoad(t *testing.T) {
	play(t, standing(t, 9), `
		take 5/2/1/1/x -> +x 2/5/9/0/9 2/5/0/1/
		is -> 2 5 up 8 2
		take 5/2/1/2/x -> 2/5/0/1/
		is -> 2 5 up 7 2
		take 5/2/4/3/y -> 2/5/0/1/
		is -> 2 5 up 6 2
		take 5/2/2/9/y -> +y 2/5/0/2/
		is -> 2 5 up 0 0
	`)
}
