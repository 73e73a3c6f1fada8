package uni_test

import (
	"slices"
	"testing"

	"gradine/api"
)

// TestMoves: from the new level on, as far as there are too many, the yardstick goes one level on.
func TestMoves(t *testing.T) {
	for _, c := range []struct {
		a, b, c      int
		text         string
		block, level int
		moves, want  string
	}{
		// what the block leaves is room: there it ends
		{1, 1, 1, "1 2", 2, 1, "1:1>2", "2:1 1:2"},
		{1, 1, 1, "1 2 3", 2, 1, "1:1>2", "2:1 3:3 1:2"},
		{1, 1, 1, "1 2 3", 3, 1, "1:1>2 1:2>3", "3:1 2:2 1:3"},
		{1, 1, 1, "1 2 3 1", 3, 2, "2:2>3", "3:2 1:1 2:3"},
		// out has room for all
		{1, 1, 1, "1 2 3 4", 4, 1, "1:1>2 1:2>3 1:3>4", "4:1 3:3 2:2"},
		{1, 1, 1, "1 2 3 4 1", 4, 2, "2:2>3 2:3>4", "4:2 1:1 3:3"},
		{1, 1, 1, "1 2 3 4 1 2", 4, 3, "3:3>4", "4:3 2:2 1:1"},
		// a level that isn't full keeps what comes
		{2, 1, 1, "1 2 3 4 -1", 4, 1, "", "4:1 3:2 2:1"},
		{1, 2, 1, "1 2 3 4 -2", 4, 1, "1:1>2", "4:1 3:2 1:2"},
		{1, 1, 2, "1 2 3 4 5 -3", 5, 1, "1:1>2 1:2>3", "5:1 4:3 2:2 1:3"},
		{1, 1, 1, "1 2 3 4 1 -2 5", 4, 3, "3:3>4", "4:3 5:2 1:1"},
		// the one that goes on is the lowest one, which needn't be the one that came
		{1, 1, 1, "1 2 3 1 4", 4, 1, "1:1>2 2:2>3 2:3>4", "4:1 1:2 3:3"},
		{1, 1, 1, "1 2 3 1 2 4", 4, 1, "1:1>2 1:2>3 3:3>4", "4:1 2:2 1:3"},
		{1, 1, 1, "1 2 3 1 2 1 4", 4, 1, "1:1>2 2:2>3 3:3>4", "4:1 1:2 2:3"},
		{2, 2, 2, "1 2 3 4 5 6 7", 7, 1, "1:1>2 1:2>3 1:3>4", "7:1 6:3 5:3 4:2 3:2 2:1"},
		{2, 2, 2, "1 2 3 4 5 6 1 7", 7, 1, "2:1>2 2:2>3 2:3>4", "7:1 1:1 6:3 5:3 4:2 3:2"},
		{2, 2, 2, "1 2 3 4 5 6 1 2 7", 7, 1, "1:1>2 3:2>3 3:3>4", "7:1 2:1 1:2 6:3 5:3 4:2"},
	} {
		s := having(t, c.a, c.b, c.c, c.text)
		checkUse(t, s, c.block, c.level, c.moves)
		if checkStack(t, s, c.want); t.Failed() {
			t.Fatal(c)
		}
	}
}

// TestMovesStay: what moved has its new level, but its old place: it is only held against it when it is used.
func TestMovesStay(t *testing.T) {
	s := having(t, 1, 1, 1, "1 2 3 3")
	checkStack(t, s, "3:1 2:2 1:3")
	checkUse(t, s, 1, 3, "")
	checkUse(t, s, 2, 2, "")
	checkStack(t, s, "2:2 1:3 3:1")
	checkUse(t, s, 1, 1, "3:1>2 3:2>3")
	checkStack(t, s, "1:1 2:2 3:3")
}

// TestMovesAreMoves: each of a move's fields, with block 0 as with any other one.
func TestMovesAreMoves(t *testing.T) {
	s := having(t, 1, 1, 1, "0 63 5 6")
	_, moves, _ := s.Use(6)
	want := []api.Move{{Block: 0, From: 1, To: 2}, {Block: 0, From: 2, To: 3}, {Block: 0, From: 3, To: 4}}
	if !slices.Equal(moves, want) {
		t.Error(moves)
	}
	checkStack(t, s, "6:1 5:3 63:2")
}

// TestFullMoves: of the greatest capacities, too, one goes on from each level.
func TestFullMoves(t *testing.T) {
	s := newStack(t, most, most, most)
	for b := range blocks {
		checkUse(t, s, b, min(1+b/most, out), "")
	}
	for i, b := range []int{63, 48, 55} {
		first := tell([]api.Move{{Block: i, From: 1, To: 2}, {Block: i, From: 2, To: 3}, {Block: i, From: 3, To: out}})
		checkUse(t, s, b, 1, first)
		for level := 1; level < out; level++ {
			checkYardstick(t, s, level, []int{i + 1, most, 2 * most}[level-1])
			if n := s.Count(level); n != most {
				t.Errorf("Count(%d): %d", level, n)
			}
		}
		if n := s.Count(out); n != most-1-i {
			t.Errorf("Count(%d): %d", out, n)
		}
	}
}
