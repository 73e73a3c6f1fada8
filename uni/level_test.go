package uni_test

import (
	"testing"
)

// TestRoom: a block that isn't in the stack gets the least level with room, whatever is above or below.
func TestRoom(t *testing.T) {
	for _, c := range []struct {
		a, b, c int
		text    string
		level   int
		want    string
	}{
		{1, 1, 1, "", 1, "9:1"},
		{2, 1, 1, "1", 1, "9:1 1:1"},
		{1, 1, 1, "1", 2, "9:2 1:1"},
		{1, 2, 1, "1 2", 2, "9:2 2:2 1:1"},
		{1, 1, 1, "1 2", 3, "9:3 2:2 1:1"},
		{1, 1, 2, "1 2 3", 3, "9:3 3:3 2:2 1:1"},
		{1, 1, 1, "1 2 3", 4, "9:4 3:3 2:2 1:1"},
		{1, 1, 1, "1 2 3 4", 4, "9:4 4:4 3:3 2:2 1:1"},
		{1, 1, 1, "1 2 3 -1", 1, "9:1 3:3 2:2"},
		{1, 1, 1, "1 2 3 -2", 2, "9:2 3:3 1:1"},
		{1, 1, 1, "1 2 3 -3", 3, "9:3 2:2 1:1"},
		{1, 1, 1, "1 2 3 -2 -1", 1, "9:1 3:3"},
		{2, 2, 2, "1 2 3 4 5 6 -2 -4 -6", 1, "9:1 5:3 3:2 1:1"},
		{2, 2, 2, "1 2 3 4 5 6 -3", 2, "9:2 6:3 5:3 4:2 2:1 1:1"},
		{1, 1, 1, "1 2 3 4 -2", 2, "9:2 4:4 3:3 1:1"},
	} {
		s := having(t, c.a, c.b, c.c, c.text)
		if checkUse(t, s, 9, c.level, ""); t.Failed() {
			t.Fatal(c)
		}
		if checkStack(t, s, c.want); t.Failed() {
			t.Fatal(c)
		}
	}
}

// TestYardsticks: a block in the stack gets the least level whose yardstick is below it, or is it.
func TestYardsticks(t *testing.T) {
	const ahead = "2:1 7:1 6:3 5:3 4:2 3:2" // the yardsticks are 7, 3 and 5
	for _, c := range []struct {
		block, level int
		moves, want  string
	}{
		{2, 1, "", ahead},
		{7, 1, "", "7:1 2:1 6:3 5:3 4:2 3:2"},
		{6, 2, "3:2>3", "6:2 2:1 7:1 5:3 4:2 3:3"},
		{5, 2, "3:2>3", "5:2 2:1 7:1 6:3 4:2 3:3"},
		{4, 2, "", "4:2 2:1 7:1 6:3 5:3 3:2"},
		{3, 2, "", "3:2 2:1 7:1 6:3 5:3 4:2"},
	} {
		s := having(t, 2, 2, 2, "1 2 3 4 5 6 7 7 2")
		checkStack(t, s, ahead)
		checkUse(t, s, c.block, c.level, c.moves)
		if checkStack(t, s, c.want); t.Failed() {
			t.Fatal(c)
		}
	}
}

// TestItselfTheYardstick: of each level, a block may be what it is held against.
func TestItselfTheYardstick(t *testing.T) {
	s := having(t, 1, 1, 1, "1 2 3")
	checkUse(t, s, 1, 1, "")
	checkStack(t, s, "1:1 3:3 2:2")
	checkUse(t, s, 2, 2, "")
	checkStack(t, s, "2:2 1:1 3:3")
	checkUse(t, s, 3, 3, "")
	checkStack(t, s, "3:3 2:2 1:1")
}

// TestNoYardstick: a level that no block has isn't one that a block in the stack gets, though there is room.
func TestNoYardstick(t *testing.T) {
	for _, c := range []struct {
		text         string
		block, level int
		moves, want  string
	}{
		{"1 2 3 -1", 2, 2, "", "2:2 3:3"},
		{"1 2 3 -1", 3, 2, "2:2>3", "3:2 2:3"},
		{"1 2 3 -2", 3, 1, "1:1>2", "3:1 1:2"},
		{"1 2 3 -2", 1, 1, "", "1:1 3:3"},
		{"1 2 3 -1 -2", 3, 3, "", "3:3"},
		{"1 2 3 -1 -3", 2, 2, "", "2:2"},
		{"1 2 3 1 -2", 3, 3, "", "3:3 1:1"},
		{"1 2 3 4 -1", 4, 2, "2:2>3 2:3>4", "4:2 3:3"},
		{"1 2 3 4 -1 -2", 4, 3, "3:3>4", "4:3"},
	} {
		s := having(t, 1, 1, 1, c.text)
		checkUse(t, s, c.block, c.level, c.moves)
		if checkStack(t, s, c.want); t.Failed() {
			t.Fatal(c)
		}
	}
}

// TestOutIsIn: a block that is out, but in the stack, isn't held against the room, but against the yardsticks.
func TestOutIsIn(t *testing.T) {
	for _, c := range []struct {
		text        string
		level       int
		moves, want string
	}{
		{"1 2 3 4", 1, "1:1>2 1:2>3 1:3>4", "4:1 3:3 2:2"},
		{"1 2 3 4 1", 2, "2:2>3 2:3>4", "4:2 1:1 3:3"},
		{"1 2 3 4 1 2", 3, "3:3>4", "4:3 2:2 1:1"},
		{"1 2 3 4 3", 2, "2:2>3 1:3>4", "4:2 3:1 2:3"},
		{"1 2 3 4 -3", 1, "1:1>2 1:2>3", "4:1 2:2 1:3"},
		{"1 2 3 4 -2", 1, "1:1>2", "4:1 3:3 1:2"},
	} {
		s := having(t, 1, 1, 1, c.text)
		checkUse(t, s, 4, c.level, c.moves)
		if checkStack(t, s, c.want); t.Failed() {
			t.Fatal(c)
		}
	}
}
