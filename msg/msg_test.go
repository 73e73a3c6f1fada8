package msg_test

import (
	"bytes"
	"math"
	"slices"
	"testing"

	"gradine/api"
	"gradine/msg"
)

const great = 1 << 40

// field is one of a message's: up to what it may be, and how it is set; of Grant the number is 0 or 1, of Data the length.
type field struct {
	name string
	most int
	set  func(m *api.Msg, n int)
}

// fields are a message's but Kind; the first one is number 1.
func fields() []field {
	return []field{
		{"Client", 3, func(m *api.Msg, n int) { m.Client = n }},
		{"Slot", 3, func(m *api.Msg, n int) { m.Slot = n }},
		{"Boot", great, func(m *api.Msg, n int) { m.Boot = n }},
		{"Op", great, func(m *api.Msg, n int) { m.Op = n }},
		{"Block", 31, func(m *api.Msg, n int) { m.Block = n }},
		{"Level", 4, func(m *api.Msg, n int) { m.Level = n }},
		{"Round", great, func(m *api.Msg, n int) { m.Round = n }},
		{"Code", 16, func(m *api.Msg, n int) { m.Code = api.Errno(n) }},
		{"Grant", 1, func(m *api.Msg, n int) { m.Grant = n == 1 }},
		{"Data", 64, func(m *api.Msg, n int) { m.Data = bytes.Repeat([]byte("x"), n) }},
	}
}

// isNumber tells whether the field of that number is neither Grant nor Data.
func isNumber(number int) bool { return number < 9 }

// named are the fields of each kind, from 1 on.
func named() [][]int {
	return [][]int{
		{},
		{2, 4, 5, 6},           // QRead
		{2, 4, 5, 6, 10},       // QWrite
		{5, 6, 10},             // QDemote
		{5, 7},                 // QAck
		{2, 4, 5, 6, 8, 9, 10}, // RData
		{2, 4, 5, 6, 8, 9},     // RDone
		{5, 7},                 // RInv
		{5, 6},                 // ARead
		{1, 2, 3, 4, 5, 6, 10}, // AWrite
		{5, 6, 10},             // ADemote
		{5},                    // ADrop
		{5, 8, 10},             // BData
		{1, 2, 3, 4, 5, 8, 9},  // BDone
		{5},                    // BInv
	}
}

// noKinds are numbers of no kind.
func noKinds() []int {
	return []int{0, -1, 15, 16, 17, 63, 64, 127, 128, 255, 256 + 1, great, 1<<32 + 1, math.MaxInt, math.MinInt}
}

// filled is a message of that kind in which each named field is told, each as another one.
func filled(kind int) api.Msg {
	m := api.Msg{Kind: kind}
	for _, f := range named()[kind] {
		fields()[f-1].set(&m, []int{0, 2, 3, 300, 70000, 31, 4, 128, 16, 1, 2}[f])
	}
	return m
}

// same tells whether both are one message; nil and empty lists are one.
func same(a, b api.Msg) bool {
	data := bytes.Equal(a.Data, b.Data)
	return data && a.Kind == b.Kind && a.Client == b.Client && a.Slot == b.Slot && a.Boot == b.Boot && a.Op == b.Op &&
		a.Block == b.Block && a.Level == b.Level && a.Round == b.Round && a.Code == b.Code && a.Grant == b.Grant
}

func checkRight(t *testing.T, m api.Msg, want bool) {
	t.Helper()
	if msg.Right(m) != want {
		t.Errorf("%v: right %v, not %v", m, !want, want)
	}
}

func TestFields(t *testing.T) {
	for kind, want := range named() {
		if l := msg.Fields(kind); !slices.Equal(l, want) {
			t.Errorf("kind %d: %v, not %v", kind, l, want)
		}
	}
	for _, kind := range noKinds() {
		if l := msg.Fields(kind); len(l) != 0 {
			t.Errorf("kind %d: %v", kind, l)
		}
	}
}

// TestFieldsIsNew: who writes into an answer, spare room included, changes no later one.
func TestFieldsIsNew(t *testing.T) {
	for kind, want := range named() {
		l := msg.Fields(kind)
		again := msg.Fields(kind)
		l = l[:cap(l)]
		for i := range l {
			l[i] = -1
		}
		if !slices.Equal(again, want) || !slices.Equal(msg.Fields(kind), want) {
			t.Errorf("kind %d: an answer was kept", kind)
		}
	}
}

func TestRight(t *testing.T) {
	for kind := api.QRead; kind <= api.BInv; kind++ {
		checkRight(t, api.Msg{Kind: kind}, true)
		checkRight(t, filled(kind), true)
	}
}

func TestRightOfNoKind(t *testing.T) {
	for _, kind := range noKinds() {
		checkRight(t, api.Msg{Kind: kind}, false)
		m := filled(api.RDone)
		m.Kind = kind
		checkRight(t, m, false)
	}
}

// TestRightOfNamedFields: each is right from 0 to its most, and nowhere else, whatever the others are.
func TestRightOfNamedFields(t *testing.T) {
	for kind, l := range named() {
		for _, number := range l {
			f := fields()[number-1]
			for _, m := range []api.Msg{{Kind: kind}, filled(kind)} {
				for _, n := range []int{0, 1, f.most / 2, f.most - 1, f.most} {
					f.set(&m, n)
					checkRight(t, m, true)
				}
				for _, n := range wrongNumbers(number) {
					f.set(&m, n)
					checkRight(t, m, false)
				}
			}
		}
	}
}

// wrongNumbers are what a field that is named may not be.
func wrongNumbers(number int) []int {
	most := fields()[number-1].most
	switch {
	case isNumber(number):
		return []int{-1, -2, -great, math.MinInt, most + 1, most + 2, 2*most + 2, 1 << 41, 1 << 62, math.MaxInt}
	case number == 10:
		return []int{65, 66, 128, 256, 1000, 65536}
	}
	return nil
}

// TestRightOfOtherFields: those that the kind doesn't name are zero.
func TestRightOfOtherFields(t *testing.T) {
	for kind := api.QRead; kind <= api.BInv; kind++ {
		for i, f := range fields() {
			if slices.Contains(named()[kind], i+1) {
				continue
			}
			wrong := []int{1}
			if isNumber(i + 1) {
				wrong = []int{1, -1, 2, f.most, f.most + 1, 256, 1 << 32, math.MaxInt, math.MinInt}
			}
			for _, n := range wrong {
				m := filled(kind)
				f.set(&m, n)
				checkRight(t, m, false)
				m = api.Msg{Kind: kind}
				f.set(&m, n)
				checkRight(t, m, false)
			}
		}
	}
}

// TestRightOfNoBytes: an empty list is one with nil, named or not, with spare room or not.
func TestRightOfNoBytes(t *testing.T) {
	for kind := api.QRead; kind <= api.BInv; kind++ {
		for _, d := range [][]byte{nil, {}, make([]byte, 0, 100), []byte("abc")[:0]} {
			m := filled(kind)
			m.Data = d
			checkRight(t, m, true)
		}
	}
}

// TestRightOfBytes: what the bytes are doesn't matter, nor what room there is behind them.
func TestRightOfBytes(t *testing.T) {
	all := make([]byte, 256)
	for i := range all {
		all[i] = byte(i)
	}
	for i := range 256 - 64 {
		checkRight(t, api.Msg{Kind: api.QWrite, Data: all[i : i+64]}, true)
		checkRight(t, api.Msg{Kind: api.QWrite, Data: all[i : i+65 : i+65]}, false)
	}
}
