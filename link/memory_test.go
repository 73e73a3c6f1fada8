package link_test

import (
	"bytes"
	"math/rand"
	"slices"
	"strings"
	"testing"

	"gradine/api"
	"gradine/link"
)

// spoil writes all over b and its spare room.
func spoil(b []byte) {
	b = b[:cap(b)]
	for i := range b {
		b[i] = ^b[i]
	}
}

// spoilAll writes all over what was answered, spare room included.
func spoilAll(l [][]byte) {
	for _, b := range l {
		spoil(b)
	}
	l = l[:cap(l)]
	for i := range l {
		l[i] = []byte("spoilt")
	}
}

// roomy is b in new memory with marked spare room behind it, and all of that memory.
func roomy(b []byte) (part, all []byte) {
	all = append(slices.Clone(b), "spare room that stays"...)
	return all[:len(b)], all
}

// TestNothingHandedInIsChanged: nor the spare room behind it, be it right or wrong.
func TestNothingHandedInIsChanged(t *testing.T) {
	for _, s := range []string{"", "a", "abc", string(long(128)), string(long(129))} {
		for _, e := range []*link.End{nil, begin(t, 2), standing(t, 0), standing(t, 8), standing(t, api.MaxQueue)} {
			load, all := roomy([]byte(s))
			was := slices.Clone(all)
			e.Send(load)
			e.Tick()
			e.Tick()
			if !bytes.Equal(all, was) {
				t.Errorf("%q: %x, not %x", s, all, was)
			}
		}
	}
	for _, s := range []string{"", "\x00", "\x01\x00\x00\x00\x00\x02", string(put(t, packetOf("4/2/1/1/x"))), string(put(t, packetOf("5/2/1/1/x"))), string(put(t, packetOf("5/1/1/1/x"))), string(put(t, packetOf("6/2/1/0/x")))} {
		for _, e := range []*link.End{nil, begin(t, 2), standing(t, 0), standing(t, 20)} {
			b, all := roomy([]byte(s))
			was := slices.Clone(all)
			e.Take(b)
			e.Take(b)
			if !bytes.Equal(all, was) {
				t.Errorf("%x: %x, not %x", s, all, was)
			}
		}
	}
}

// TestLoadsAreNotKept: what the caller does with one later changes nothing.
func TestLoadsAreNotKept(t *testing.T) {
	e := standing(t, 0)
	for range 10 {
		load, all := roomy([]byte("abc"))
		e.Send(load)
		spoil(all)
	}
	play(t, e, `
		tick ->
		tick -> 2/5/1/0/abc 2/5/2/0/abc 2/5/3/0/abc 2/5/4/0/abc 2/5/5/0/abc 2/5/6/0/abc 2/5/7/0/abc 2/5/8/0/abc
		take 5/2/0/8/ -> 2/5/9/0/abc 2/5/10/0/abc
	`)
}

// TestPacketsAreNotKept: nor is what came of them within what was handed in.
func TestPacketsAreNotKept(t *testing.T) {
	e := standing(t, 9)
	b, all := roomy(put(t, packetOf("5/2/1/1/xyz")))
	h, out := e.Take(b)
	spoil(all)
	if got := heardOf(h, out); got != "+xyz 2/5/9/0/9 2/5/0/1/" {
		t.Error(got)
	}
}

// TestAnswersAreNew: none shares memory with the end, another answer, or another part of its own.
func TestAnswersAreNew(t *testing.T) {
	for seed := range int64(40) {
		r := rand.New(rand.NewSource(seed))
		e, k := begin(t, 2), &book{mine: 2}
		var kept [][]byte
		var was []string
		for i := range 400 {
			line := anyLine(r, k, 40)
			want := k.answer(line)
			var h link.Heard
			var out [][]byte
			switch line[:4] {
			case "tick":
				out = e.Tick()
			case "send":
				out, _ = e.Send(loadOf(line[5:]))
			default:
				h, out = e.Take(put(t, packetOf(line[5:])))
			}
			if got := heardOf(h, out); got != want && !strings.HasPrefix(want, "error") {
				t.Fatalf("seed %d, %d, %s: %q, not %q", seed, i, line, got, want)
			}
			if r.Intn(2) == 0 {
				spoilAll(out)
				spoilAll(h.Loads)
				continue
			}
			for _, b := range slices.Concat(h.Loads, out) {
				kept = append(kept, b)
				was = append(was, string(b))
			}
		}
		for i, b := range kept {
			if string(b) != was[i] {
				t.Fatalf("seed %d: an answer is %x, and was %x", seed, b, was[i])
			}
			spoil(b)
		}
	}
}

// TestPartsOfAnAnswerAreApart: to write over one packet, and its spare room, leaves the others.
func TestPartsOfAnAnswerAreApart(t *testing.T) {
	e := standing(t, 8)
	e.Tick()
	out := e.Tick()
	for i := range out {
		was := make([][]byte, len(out))
		for j := range was {
			was[j] = slices.Clone(out[j])
		}
		spoil(out[i])
		for j := range out {
			if i != j && !bytes.Equal(out[j], was[j]) {
				t.Errorf("%d and %d share memory", i, j)
			}
		}
	}
}

// TestNothingIsNothing: where nothing is told, and nothing heard, the answers are empty.
func TestNothingIsNothing(t *testing.T) {
	e := standing(t, 8)
	out, bad := e.Send([]byte("a"))
	if bad != api.OK || len(out) != 0 {
		t.Error(out, bad)
	}
	h, out := e.Take(put(t, packetOf("5/2/0/0/")))
	if h.Reset || h.Up || len(h.Loads) != 0 || len(out) != 0 {
		t.Error(h, out)
	}
	if out := e.Tick(); len(out) != 0 {
		t.Error(out)
	}
}

// TestTheSameEachTime: two ends that have been through the same answer the same, whatever others do between.
func TestTheSameEachTime(t *testing.T) {
	r := rand.New(rand.NewSource(7))
	a, b, other, k := begin(t, 2), begin(t, 2), begin(t, 9), &book{mine: 2}
	for i := range 3000 {
		line := anyLine(r, k, 30)
		first := do(t, a, line)
		do(t, other, anyLine(r, k, 60))
		if second := do(t, b, line); first != second || first != k.answer(line) {
			t.Fatalf("%d, %s: %q, then %q", i, line, first, second)
		}
		for range 2 {
			if stateOf(a) != stateOf(b) || stateOf(a) != k.state() {
				t.Fatalf("%d, %s: %s, and %s", i, line, stateOf(a), stateOf(b))
			}
		}
	}
}
