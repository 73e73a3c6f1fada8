package link_test

import (
	"bytes"
	"fmt"
	"math/rand"
	"strings"
	"testing"

	"gradine/api"
	"gradine/frame"
)

// sent is a load by the chapter's words: it was told or not, acknowledged or not.
type sent struct {
	load        string
	told, acked bool
}

// book is an end by the chapter's words: all loads of its session, from number 1 on, and how many ticks ago its timer began anew.
type book struct {
	mine, yours int
	up          bool
	loads       []sent
	came, since int
}

func (k *book) waits() int {
	n := 0
	for _, s := range k.loads {
		if !s.acked {
			n++
		}
	}
	return n
}

func (k *book) runs() bool { return !k.up || k.waits() > 0 }

// goesOff tells how many ticks there are from the timer's beginning to the next time that it goes off: it does at 2, 6, 14, 22, ..
func (k *book) goesOff() int {
	for _, at := range []int{2, 6} {
		if k.since < at {
			return at
		}
	}
	return 14 + (k.since-6)/8*8
}

func (k *book) timer() int {
	if !k.runs() {
		return 0
	}
	return k.goesOff() - k.since
}

func (k *book) state() string {
	is := map[bool]string{true: "up", false: "down"}[k.up]
	return fmt.Sprintf("%d %d %s %d %d", k.mine, k.yours, is, k.waits(), k.timer())
}

func (k *book) packet(yours, seq int, load string) string {
	return fmt.Sprintf("%d/%d/%d/%d/%s", k.mine, yours, seq, k.came, load)
}

// open tells those of the eldest eight that wait: all of them, or those that weren't told as yet.
func (k *book) open(again bool) string {
	var l []string
	room := 8
	for i := range k.loads {
		s := &k.loads[i]
		if s.acked || room == 0 {
			continue
		}
		room--
		if again || !s.told {
			l = append(l, k.packet(k.yours, i+1, s.load))
		}
		s.told = true
	}
	return strings.Join(l, " ")
}

func (k *book) send(load string) string {
	switch {
	case !k.up:
		return "error 16"
	case k.waits() == 256, load == "", len(load) > 128:
		return "error 4"
	}
	if k.waits() == 0 {
		k.since = 0
	}
	k.loads = append(k.loads, sent{load: load})
	return k.open(false)
}

func (k *book) take(p api.Packet) string {
	var l []string
	if p.Mine < k.yours {
		return ""
	}
	if p.Mine > k.yours {
		*k = book{mine: k.mine, yours: p.Mine}
		l = append(l, "reset")
	}
	if p.Yours != k.mine {
		return strings.Join(append(l, k.packet(k.yours, 0, "")), " ")
	}
	if !k.up {
		k.up, k.since = true, 0
		l = append(l, "up")
	}
	told := k.acknowledge(p.Ack)
	if p.Seq > 0 && p.Seq == k.came+1 {
		k.came++
		l = append(l, "+"+string(p.Load))
	}
	if told != "" {
		l = append(l, told)
	}
	if p.Seq > 0 {
		l = append(l, k.packet(k.yours, 0, ""))
	}
	return strings.Join(l, " ")
}

func (k *book) acknowledge(ack int) string {
	if ack > len(k.loads) || ack == 0 || !k.loads[ack-1].told || k.loads[ack-1].acked {
		return ""
	}
	for i := range ack {
		k.loads[i].acked = true
	}
	k.since = 0
	return k.open(false)
}

func (k *book) tick() string {
	if !k.runs() {
		return ""
	}
	off := k.goesOff()
	k.since++
	switch {
	case k.since < off:
		return ""
	case !k.up:
		return k.packet(0, 0, "")
	}
	return k.open(true)
}

// anyPacket is one that is about what an end of the book might hear: mostly of its session, with numbers that are near.
func anyPacket(r *rand.Rand, k *book) api.Packet {
	p := api.Packet{Mine: max(1, k.yours), Yours: k.mine}
	switch r.Intn(24) {
	case 0:
		p.Mine++
	case 1:
		p.Mine = max(1, k.yours-1)
	case 2, 3:
		p.Yours = r.Intn(5)
	}
	acked := len(k.loads) - k.waits()
	switch r.Intn(4) {
	case 0:
		p.Ack = acked + r.Intn(3)
	case 1:
		p.Ack = acked + r.Intn(12)
	case 2:
		p.Ack = r.Intn(acked + 1)
	}
	if r.Intn(2) == 0 {
		p.Seq = max(0, k.came-2+r.Intn(6))
	}
	if p.Seq > 0 {
		p.Load = bytes.Repeat([]byte{byte('a' + r.Intn(26))}, r.Intn(4))
	}
	return p
}

// anyLine is a line that an end may be given.
func anyLine(r *rand.Rand, k *book, sends int) string {
	switch n := r.Intn(100); {
	case n < sends:
		return "send " + []string{"a", "bc", "def", "128*g", "h", "i", "", "129*x"}[r.Intn(8)]
	case n < sends+(100-sends)/2:
		return "tick"
	}
	return "take " + textOf(anyPacket(r, k))
}

// answer is what a line is answered by the book.
func (k *book) answer(line string) string {
	word, rest, _ := strings.Cut(line, " ")
	switch word {
	case "tick":
		return k.tick()
	case "send":
		return k.send(string(loadOf(rest)))
	}
	return k.take(packetOf(rest))
}

// TestByTheBook: whatever comes, in any order, is answered as the chapter's words say.
func TestByTheBook(t *testing.T) {
	for seed := range int64(300) {
		r := rand.New(rand.NewSource(seed))
		mine, sends := 1+r.Intn(4), 5+r.Intn(80)
		e, k := begin(t, mine), &book{mine: mine}
		for i := range 700 {
			line := anyLine(r, k, sends)
			if got, want := do(t, e, line), k.answer(line); got != want {
				t.Fatalf("seed %d, %d, %s: %q, not %q", seed, i, line, got, want)
			}
			if got, want := stateOf(e), k.state(); got != want {
				t.Fatalf("seed %d, %d, %s: is %q, not %q", seed, i, line, got, want)
			}
		}
	}
}

// TestEachShortTale: all lines of a few kinds, in each order, up to a depth.
func TestEachShortTale(t *testing.T) {
	lines := []string{"tick", "send a", "take 3/0/0/0/", "take 3/2/0/1/", "take 3/2/1/0/x", "take 4/2/2/2/y", "take 4/3/1/1/z"}
	var tale []string
	var goOn func(depth int)
	goOn = func(depth int) {
		e, k := begin(t, 2), &book{mine: 2}
		for _, line := range tale {
			if got, want := do(t, e, line), k.answer(line); got != want {
				t.Fatalf("%q: %q, not %q", tale, got, want)
			}
		}
		if got, want := stateOf(e), k.state(); got != want {
			t.Fatalf("%q: is %q, not %q", tale, got, want)
		}
		if depth == 0 {
			return
		}
		for _, line := range lines {
			tale = append(tale, line)
			goOn(depth - 1)
			tale = tale[:len(tale)-1]
		}
	}
	goOn(5)
}

// TestAnyBytes: whatever bytes come, the call ends; what is no packet is nothing, what is one is as the book says.
func TestAnyBytes(t *testing.T) {
	r := rand.New(rand.NewSource(1))
	e, k := begin(t, 2), &book{mine: 2}
	for i := range 30000 {
		b := put(t, anyPacket(r, k))
		switch r.Intn(4) {
		case 0:
			b[r.Intn(len(b))] ^= byte(1 << r.Intn(8))
		case 1:
			b = b[:r.Intn(len(b)+1)]
		case 2:
			b = make([]byte, r.Intn(12))
			r.Read(b)
		}
		want := ""
		if p, bad := frame.Get(b); bad == api.OK && p.Mine < 1000 {
			want = k.take(p)
		} else if bad == api.OK {
			continue // so great a boot would leave no room for others
		}
		if got := heardOf(e.Take(b)); got != want {
			t.Fatalf("%d, %x: %q, not %q", i, b, got, want)
		}
		if got := stateOf(e); got != k.state() {
			t.Fatalf("%d, %x: is %q, not %q", i, b, got, k.state())
		}
	}
}
