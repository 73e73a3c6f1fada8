package array_test

import (
	"slices"
	"testing"

	"gradine/api"
	"gradine/sector"
)

// spoil writes all over l and its spare room.
func spoil[T any](l []T, x T) {
	l = l[:cap(l)]
	for i := range l {
		l[i] = x
	}
}

// roomy is a message whose bytes stand at the front of a greater list, which is told too.
func roomy(m api.Msg) (api.Msg, []byte) {
	all := append(slices.Clone(m.Data), "......"...)
	m.Data = all[:len(m.Data)]
	return m, all
}

// exclusives are kinds of arrays that blocks are handed down to.
func exclusives() []api.Config {
	return []api.Config{plain(api.MExclusive, 2), queued(api.MExclusive, 2), leveled(2), parted()}
}

// TestBytesAreNotKept: who changes what was handed in, spare room included, changes neither what is held nor what lasts; nor does the array change it.
func TestBytesAreNotKept(t *testing.T) {
	for _, c := range kinds() {
		d := sector.New(sectors)
		a := over(t, c, d)
		first, allFirst := roomy(write(1, 3, 3, "aa"))
		second, allSecond := roomy(write(2, 2, 0, "bb"))
		for _, m := range []api.Msg{first, first, second, second} {
			a.Hear(m)
		}
		if string(allFirst) != "aa......" || string(allSecond) != "bb......" {
			t.Errorf("%q %q", allFirst, allSecond)
		}
		spoil(allFirst, '!')
		spoil(allSecond, '!')
		checkStored(t, a, 3, "aa", 1)
		checkStored(t, a, 2, "bb", 1)
		checkHear(t, a, read(3, 3), data(3, "aa"))
		checkHear(t, a, read(2, 3), data(2, "bb"))
		a = over(t, c, d)
		checkStored(t, a, 3, "aa", 1)
		checkStored(t, a, 2, "bb", 1)
	}
}

// TestDemotedBytesAreNotKept: nor are those of a block that is handed down.
func TestDemotedBytesAreNotKept(t *testing.T) {
	for _, c := range exclusives() {
		a := newArray(t, c)
		m, all := roomy(demote(3, 3, zero))
		a.Hear(m)
		a.Hear(m)
		if string(all) != zero+"......" {
			t.Errorf("%q", all)
		}
		spoil(all, '!')
		checkHeld(t, a, 3, zero)
	}
}

// TestConfigurationIsNotKept: who changes its hints changes no array; they aren't changed either.
func TestConfigurationIsNotKept(t *testing.T) {
	c := parted()
	c.Hints = append(c.Hints, api.Hint{From: 15, Size: 2, Often: 3})[:3]
	was := slices.Clone(c.Hints[:4])
	a := newArray(t, c)
	for b := range blocks {
		a.Hear(read(b, 3))
	}
	if !slices.Equal(c.Hints[:4], was) {
		t.Errorf("%v, not %v", c.Hints[:4], was)
	}
	spoil(c.Hints, api.Hint{From: 8, Size: 40, Often: -3})
	for b := range blocks {
		a.Hear(read(b, 3))
	}
	checkBlocks(t, a, 4, 3)
}

// TestWhatIsAnsweredIsNew: who changes it, spare room included, changes neither the array nor another answer.
func TestWhatIsAnsweredIsNew(t *testing.T) {
	for _, c := range kinds() {
		a := newArray(t, c)
		a.Hear(write(1, 3, 3, "aa"))
		a.Hear(read(2, 3))
		for range 3 {
			for _, level := range []int{3, 0} {
				one, other := a.Hear(read(3, level)), a.Hear(read(3, level))
				spoil(one[0].Data, '!')
				spoil(one, api.Msg{Kind: 77})
				if len(other) != 1 || !same(other[0], data(3, "aa")) {
					t.Error(tell(other))
				}
				spoil(other[0].Data, '!')
			}
			one, other := a.Blocks(), a.Blocks()
			spoil(one, 77)
			checkBlocks(t, a, other...)
			b, _, _ := a.Stored(3)
			spoil(b, '!')
			checkStored(t, a, 3, "aa", 1)
		}
		m := write(1, 3, 3, "aa")
		one, other := a.Hear(m), a.Hear(m)
		spoil(one, api.Msg{Kind: 77})
		if len(other) != 1 || !same(other[0], done(m, api.OK, false)) {
			t.Error(tell(other))
		}
	}
}

// TestAnAnswerStays: what is heard behind it doesn't change it.
func TestAnAnswerStays(t *testing.T) {
	for _, c := range kinds() {
		a := newArray(t, c)
		a.Hear(write(1, 3, 3, "aa"))
		told, held := a.Hear(read(3, 3)), a.Blocks()
		b, _, _ := a.Stored(3)
		for op, m := range []api.Msg{write(0, 3, 3, "bb"), write(0, 2, 3, "cc"), write(0, 4, 3, "dd")} {
			m.Op = op + 2
			a.Hear(m)
			a.Hear(read(m.Block, 3))
		}
		a.Hear(drop(3))
		if len(told) != 1 || !same(told[0], data(3, "aa")) || !slices.Equal(held, []int{3}) || string(b) != "aa" {
			t.Errorf("%s %v %q", tell(told), held, b)
		}
	}
}

// TestAskingChangesNothing: nor does it use what is held.
func TestAskingChangesNothing(t *testing.T) {
	for _, c := range kinds() {
		a := newArray(t, c)
		a.Hear(read(3, 3))
		a.Hear(read(2, 3))
		for range 5 {
			a.Down()
			a.Blocks()
			a.Reads()
			for b := range 40 {
				a.Stored(b - 3)
			}
		}
		checkBlocks(t, a, 2, 3)
		checkReads(t, a, 2)
		a.Hear(write(1, 4, 3, "aa"))
		checkBlocks(t, a, 4, 2)
	}
}

// TestArraysAreApart: what one hears isn't another one's.
func TestArraysAreApart(t *testing.T) {
	c := plain(api.MInclusive, 2)
	one, other := newArray(t, c), newArray(t, c)
	one.Hear(write(1, 3, 3, "aa"))
	one.Hear(read(2, 3))
	checkBlocks(t, other)
	checkReads(t, other, 0)
	checkStored(t, other, 3, zero, 0)
	checkHear(t, other, read(3, 3), data(3, zero))
	checkBlocks(t, one, 2, 3)
	checkHeld(t, one, 3, "aa")
}
