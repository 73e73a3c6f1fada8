package karma_test

import (
	"testing"

	"gradine/api"
)

// TestSet: the plan is that of the hints that were set last, as if it had never been another one.
func TestSet(t *testing.T) {
	p := newPlan(t, 12, [3]int{3, 2, 2}, "")
	for _, c := range []struct{ l, want string }{
		{"0+4:8 4+2:10o 8+3:6", "1/2/1/0 2/0/0/0 0/0/1/2"},
		{"0+12:1o", "3/2/2/5"},
		{"0+12:1o", "3/2/2/5"},
		{"0+12:1", "3/2/2/5"},
		{"11+1:0", "1/0/0/0"},
		{"", ""},
		{"", ""},
		{"0+1:1 1+1:2 2+1:3 3+1:4 4+1:5 5+1:6 6+1:7 7+1:8", "0/0/0/1 0/0/1/0 0/0/1/0 0/1/0/0 0/1/0/0 1/0/0/0 1/0/0/0 1/0/0/0"},
		{"8+3:6 4+2:10o 0+4:8", "1/2/0/0 2/0/0/0 0/0/2/2"},
	} {
		if e := p.Set(hints(t, c.l)); e != api.OK {
			t.Errorf("Set: %d", int(e))
		}
		if checkTold(t, p, c.l, c.want); t.Failed() {
			t.Fatal(c)
		}
		checkTold(t, newPlan(t, 12, [3]int{3, 2, 2}, c.l), c.l, c.want)
	}
}

// TestSetForItsBlocks: hints that are set have to be right for the plan's blocks, with hints and without.
func TestSetForItsBlocks(t *testing.T) {
	for blocks := 1; blocks <= maxBlocks; blocks++ {
		for _, was := range []string{"", "0+1:1"} {
			p := newPlan(t, blocks, [3]int{16, 16, 16}, was)
			if e := p.Set([]api.Hint{{From: 0, Size: blocks + 1}}); e != api.ErrHint {
				t.Errorf("one more than %d blocks: %d", blocks, int(e))
			}
			if e := p.Set([]api.Hint{{From: blocks, Size: 1}}); e != api.ErrHint {
				t.Errorf("behind %d blocks: %d", blocks, int(e))
			}
			if e := p.Set([]api.Hint{{From: 0, Size: blocks}}); e != api.OK {
				t.Errorf("%d blocks: %d", blocks, int(e))
			}
			if e := p.Set([]api.Hint{{From: blocks - 1, Size: 1}}); e != api.OK {
				t.Errorf("the last one of %d: %d", blocks, int(e))
			}
		}
	}
}

// TestSetWrong: what is refused changes nothing, whatever was set.
func TestSetWrong(t *testing.T) {
	for _, c := range []struct{ l, want string }{
		{"", ""},
		{"9+1:1o", "1/0/0/0"},
		{"0+4:8 4+2:10o 7+3:6", "1/2/1/0 2/0/0/0 0/0/1/2"},
	} {
		p := newPlan(t, 10, [3]int{3, 2, 2}, c.l)
		for _, l := range wrongHints(10) {
			for range 2 {
				if e := p.Set(l); e != api.ErrHint {
					t.Errorf("Set(%v): %d", l, int(e))
				}
			}
			if checkTold(t, p, c.l, c.want); t.Failed() {
				t.Fatal(l)
			}
		}
		if e := p.Set(hints(t, "2+8:1")); e != api.OK {
			t.Errorf("Set: %d", int(e))
		}
		checkTold(t, p, "2+8:1", "3/2/2/1")
	}
}
