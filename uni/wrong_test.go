package uni_test

import (
	"testing"

	"gradine/api"
	"gradine/uni"
)

// some are stacks that are empty, full, and neither, with blocks that are out and without, with what they hold.
func some(t *testing.T) map[*uni.Stack]string {
	t.Helper()
	return map[*uni.Stack]string{
		newStack(t, 1, 1, 1):                          "",
		having(t, 16, 16, 16, "0"):                    "0:1",
		having(t, 1, 2, 1, "1 63 0 5"):                "5:3 0:2 63:2 1:1",
		having(t, 1, 1, 1, "0 63 5 6 7 0"):            "0:1 7:4 6:4 5:3 63:2",
		having(t, 1, 1, 1, "0 63 5 6 7 0 -0"):         "7:4 6:4 5:3 63:2",
		having(t, 2, 2, 2, "1 2 3 4 5 6 7 7 2 63 -4"): "63:4 2:1 7:1 6:3 5:3 3:2",
	}
}

// TestNoSuchBlock: nothing is answered, and nothing changed.
func TestNoSuchBlock(t *testing.T) {
	for s, want := range some(t) {
		for _, b := range noBlocks() {
			checkNoUse(t, s, b, api.ErrRange)
			checkDrop(t, s, b, false)
			if l := s.Level(b); l != 0 {
				t.Errorf("Level(%d): %d", b, l)
			}
			checkStack(t, s, want)
		}
	}
}

// TestNoSuchLevel: no block has it, those that aren't in the stack included.
func TestNoSuchLevel(t *testing.T) {
	for s, want := range some(t) {
		for _, level := range noLevels() {
			if n := s.Count(level); n != 0 {
				t.Errorf("Count(%d): %d", level, n)
			}
			checkYardstick(t, s, level, -1)
			checkStack(t, s, want)
		}
	}
}

// TestNotThere: what isn't in the stack isn't dropped; it isn't there for having been asked for.
func TestNotThere(t *testing.T) {
	for s, want := range some(t) {
		for b := range blocks {
			if s.Level(b) != 0 {
				continue
			}
			for range 2 {
				checkDrop(t, s, b, false)
			}
		}
		checkStack(t, s, want)
	}
}

// TestNil: of no stack nothing is told, and nothing done.
func TestNil(t *testing.T) {
	var s *uni.Stack
	for _, b := range append(noBlocks(), 0, 1, 2, 3, out, 5, most, 63) {
		checkNoUse(t, s, b, api.ErrNil)
		checkDrop(t, s, b, false)
		if l := s.Level(b); l != 0 {
			t.Errorf("Level(%d): %d", b, l)
		}
		if n := s.Count(b); n != 0 {
			t.Errorf("Count(%d): %d", b, n)
		}
		checkYardstick(t, s, b, -1)
	}
	checkStack(t, s, "")
}
