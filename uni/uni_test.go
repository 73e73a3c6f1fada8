package uni_test

import (
	"math"
	"slices"
	"strconv"
	"strings"
	"testing"

	"gradine/api"
	"gradine/uni"
)

const (
	blocks = 64
	most   = 16 // blocks of a level
	out    = 4
)

// noBlocks are numbers of no block.
func noBlocks() []int {
	return []int{-1, -2, -63, -64, 64, 65, 104, 128, 1 << 8, 1 << 32, 1<<32 + 1, math.MaxInt, math.MinInt}
}

// noLevels are numbers of no level, out being one.
func noLevels() []int {
	return []int{0, -1, -3, -4, 5, 6, 63, 64, 1 << 8, 1<<8 + 1, 1 << 32, 1<<32 + 1, math.MaxInt, math.MinInt}
}

// number is what a text says.
func number(t *testing.T, s string) int {
	t.Helper()
	n, e := strconv.Atoi(s)
	if e != nil {
		t.Fatal(e)
	}
	return n
}

// newStack is one whose levels have these capacities.
func newStack(t *testing.T, a, b, c int) *uni.Stack {
	t.Helper()
	s, e := uni.New([3]int{a, b, c})
	if s == nil || e != api.OK {
		t.Fatalf("New(%d %d %d): %v %d", a, b, c, s, int(e))
	}
	return s
}

// run does what a text says: "1 2 -1" uses 1 and 2 and drops 1.
func run(t *testing.T, s *uni.Stack, text string) {
	t.Helper()
	for _, w := range strings.Fields(text) {
		if block, drops := strings.CutPrefix(w, "-"); drops {
			checkDrop(t, s, number(t, block), true)
		} else if _, _, e := s.Use(number(t, w)); e != api.OK {
			t.Errorf("Use(%s): %d", w, int(e))
		}
	}
}

// having is a stack of these capacities behind what the text says.
func having(t *testing.T, a, b, c int, text string) *uni.Stack {
	t.Helper()
	s := newStack(t, a, b, c)
	run(t, s, text)
	return s
}

// tell writes moves as a text: "1:2>3" is block 1's from level 2 to 3.
func tell(moves []api.Move) string {
	var l []string
	for _, m := range moves {
		l = append(l, strconv.Itoa(m.Block)+":"+strconv.Itoa(m.From)+">"+strconv.Itoa(m.To))
	}
	return strings.Join(l, " ")
}

// checkUse tells where Use answers another level than this one, or other moves.
func checkUse(t *testing.T, s *uni.Stack, block, level int, moves string) {
	t.Helper()
	if l, m, e := s.Use(block); l != level || tell(m) != moves || e != api.OK {
		t.Errorf("Use(%d): %d, %s, %d, not %d, %s", block, l, tell(m), int(e), level, moves)
	}
}

// checkNoUse tells where Use answers another error, or anything beside it.
func checkNoUse(t *testing.T, s *uni.Stack, block int, want api.Errno) {
	t.Helper()
	if l, m, e := s.Use(block); l != 0 || len(m) != 0 || e != want {
		t.Errorf("Use(%d): %d, %s, %d, not %d", block, l, tell(m), int(e), int(want))
	}
}

func checkDrop(t *testing.T, s *uni.Stack, block int, want bool) {
	t.Helper()
	if s.Drop(block) != want {
		t.Errorf("Drop(%d): %v", block, !want)
	}
}

// checkYardstick tells where a level's yardstick isn't the block; below 0: where it has one.
func checkYardstick(t *testing.T, s *uni.Stack, level, want int) {
	t.Helper()
	if b, is := s.Yardstick(level); b != max(want, 0) || is != (want >= 0) {
		t.Errorf("Yardstick(%d): %d %v, not %d", level, b, is, want)
	}
}

// held is a block that a stack holds, with its level.
type held struct{ block, level int }

// checkHeld tells where anything that can be asked of the stack is otherwise than that of these, from the top down.
func checkHeld(t *testing.T, s *uni.Stack, want []held) {
	t.Helper()
	var all, levels [blocks]int
	count := [out + 1]int{}
	yardstick := [out + 1]int{-1, -1, -1, -1, -1}
	for i, h := range want {
		all[i], levels[h.block] = h.block, h.level
		count[h.level]++
		yardstick[h.level] = h.block
	}
	if got := s.All(); !slices.Equal(got, all[:len(want)]) {
		t.Errorf("All: %v, not %v", got, all[:len(want)])
	}
	for b := range blocks {
		if got := s.Level(b); got != levels[b] {
			t.Errorf("Level(%d): %d, not %d", b, got, levels[b])
		}
	}
	for level := 1; level <= out; level++ {
		if got := s.Count(level); got != count[level] {
			t.Errorf("Count(%d): %d, not %d", level, got, count[level])
		}
	}
	for level := 1; level < out; level++ {
		checkYardstick(t, s, level, yardstick[level])
	}
	checkYardstick(t, s, out, -1)
}

// checkStack is checkHeld, of what is told as a text: "5:1 6:2" has block 5 with level 1 on top of block 6 with level 2.
func checkStack(t *testing.T, s *uni.Stack, want string) {
	t.Helper()
	var l []held
	for _, w := range strings.Fields(want) {
		block, level, _ := strings.Cut(w, ":")
		l = append(l, held{number(t, block), number(t, level)})
	}
	checkHeld(t, s, l)
}

// TestExample is the chapter's.
func TestExample(t *testing.T) {
	s := newStack(t, 1, 1, 1)
	checkUse(t, s, 5, 1, "")
	checkUse(t, s, 6, 2, "")
	checkUse(t, s, 5, 1, "")
	checkStack(t, s, "5:1 6:2")
}

// TestNew: it is empty, and of each level's blocks there are as many as its capacity, whichever ones.
func TestNew(t *testing.T) {
	for c := 1; c <= most; c++ {
		for _, caps := range [][3]int{{c, 1, 1}, {1, c, 1}, {1, 1, c}, {c, c, c}, {c, 17 - c, 16}, {16, c, 17 - c}} {
			s := newStack(t, caps[0], caps[1], caps[2])
			checkHeld(t, s, nil)
			var want []held
			for b := range blocks {
				level := 1
				for rest := b; level < out && rest >= caps[level-1]; level++ {
					rest -= caps[level-1]
				}
				checkUse(t, s, b, level, "")
				want = slices.Insert(want, 0, held{b, level})
			}
			checkHeld(t, s, want)
		}
	}
}

// TestNewWrong: a capacity beyond its bounds, at each place.
func TestNewWrong(t *testing.T) {
	for _, c := range []int{0, -1, -2, -16, 17, 18, 40, 64, 1<<8 + 1, 1 << 32, 1<<32 + 1, math.MaxInt, math.MinInt} {
		for _, other := range []int{1, 5, 16, c} {
			for _, caps := range [][3]int{{c, other, other}, {other, c, other}, {other, other, c}} {
				if s, e := uni.New(caps); s != nil || e != api.ErrArg {
					t.Errorf("New(%v): %v %d", caps, s, int(e))
				}
			}
		}
	}
}

// TestFirst: each block is one that may come first.
func TestFirst(t *testing.T) {
	for b := range blocks {
		s := newStack(t, 1, 1, 1)
		checkUse(t, s, b, 1, "")
		checkHeld(t, s, []held{{b, 1}})
		checkUse(t, s, b, 1, "")
		checkHeld(t, s, []held{{b, 1}})
		checkDrop(t, s, b, true)
		checkHeld(t, s, nil)
	}
}

// TestApart: what is in one stack is in no other one.
func TestApart(t *testing.T) {
	a, b := having(t, 1, 1, 1, "1 2 3"), newStack(t, 2, 1, 1)
	checkStack(t, b, "")
	checkDrop(t, b, 1, false)
	checkUse(t, b, 3, 1, "")
	checkUse(t, b, 2, 1, "")
	checkUse(t, a, 3, 1, "1:1>2 1:2>3")
	checkStack(t, a, "3:1 2:2 1:3")
	checkStack(t, b, "2:1 3:1")
}
