package uni_test

import (
	"testing"
)

// TestDrop: from each place a block goes, once; no other one's level changes, and there is room for one.
func TestDrop(t *testing.T) {
	for _, c := range []struct {
		block     int
		want      string
		level     int // what one that comes then gets
		wantAgain string
	}{
		{7, "6:3 5:3 4:2 3:2 2:1 1:1", 4, "7:4 6:3 5:3 4:2 3:2 2:1 1:1"},
		{6, "7:4 5:3 4:2 3:2 2:1 1:1", 3, "6:3 7:4 5:3 4:2 3:2 2:1 1:1"},
		{5, "7:4 6:3 4:2 3:2 2:1 1:1", 3, "5:3 7:4 6:3 4:2 3:2 2:1 1:1"},
		{4, "7:4 6:3 5:3 3:2 2:1 1:1", 2, "4:2 7:4 6:3 5:3 3:2 2:1 1:1"},
		{3, "7:4 6:3 5:3 4:2 2:1 1:1", 2, "3:2 7:4 6:3 5:3 4:2 2:1 1:1"},
		{2, "7:4 6:3 5:3 4:2 3:2 1:1", 1, "2:1 7:4 6:3 5:3 4:2 3:2 1:1"},
		{1, "7:4 6:3 5:3 4:2 3:2 2:1", 1, "1:1 7:4 6:3 5:3 4:2 3:2 2:1"},
	} {
		s := having(t, 2, 2, 2, "1 2 3 4 5 6 7")
		checkDrop(t, s, c.block, true)
		checkStack(t, s, c.want)
		checkDrop(t, s, c.block, false)
		checkStack(t, s, c.want)
		checkUse(t, s, c.block, c.level, "")
		if checkStack(t, s, c.wantAgain); t.Failed() {
			t.Fatal(c)
		}
	}
}

// TestDropLowest: blocks that are out, and are the lowest ones then, go too, up to the first that isn't.
func TestDropLowest(t *testing.T) {
	for _, c := range []struct{ text, want string }{
		// 4 and 5 are beneath 2, 1 and above 3: as long as 3 is there, they stay
		{"1 2 3 4 5 1 2", "2:2 1:1 5:4 4:4 3:3"},
		{"1 2 3 4 5 1 2 -5", "2:2 1:1 4:4 3:3"},
		{"1 2 3 4 5 1 2 -4", "2:2 1:1 5:4 3:3"},
		{"1 2 3 4 5 1 2 -2 -1", "5:4 4:4 3:3"},
		// 3 is used, or dropped
		{"1 2 3 4 5 1 2 3", "3:3 2:2 1:1"},
		{"1 2 3 4 5 1 2 -3", "2:2 1:1"},
		{"1 2 3 4 5 1 2 3 4 5", "5:4 4:4 3:3 2:2 1:1"},
		// one that is out, but stands above one that isn't, stays
		{"1 2 3 4 1 5 2", "2:2 5:4 1:1 4:4 3:3"},
		{"1 2 3 4 1 5 2 3", "3:3 2:2 5:4 1:1"},
		{"1 2 3 4 1 5 2 -3", "2:2 5:4 1:1"},
		{"1 2 3 4 1 5 2 6 7 -3 -1", "7:4 6:4 2:2"},
		{"1 2 3 4 1 5 2 6 7 -1 -3", "7:4 6:4 2:2"},
		// one that moves out is the lowest one, wherever the others stand
		{"1 2 3 4 5 6 6", "6:1 5:4 4:4 3:3 2:2"},
		{"1 2 3 4 5 6 6 2 3", "3:3 2:2 6:1"},
		{"2 1 3 1 2 4 4", "4:1 2:2 1:3"},
		// none is left that isn't out, or none at all
		{"1 2 3 4 5 6 -1 -2 -3", ""},
		{"1 2 3 4 5 6 -3 -2 -1", ""},
		{"1 2 3 4 5 6 -1 -2 -3 6 5 4 3", "3:4 4:3 5:2 6:1"},
		{"1 2 3 4 5 6 -4 -1 -2", "6:4 5:4 3:3"},
		{"1 2 3 4 5 6 -4 -1 -2 6", "6:3"},
		{"1 -1", ""},
		{"1 2 3 -3 -2 -1", ""},
	} {
		if checkStack(t, having(t, 1, 1, 1, c.text), c.want); t.Failed() {
			t.Fatal(c)
		}
	}
}
