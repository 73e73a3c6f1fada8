package cache_test

import (
	"bytes"
	"slices"
	"strings"
	"testing"

	"gradine/api"
)

// spoil writes all over l and its spare room.
func spoil[T any](l []T, x T) {
	l = l[:cap(l)]
	for i := range l {
		l[i] = x
	}
}

// roomy is a block's bytes at the front of a greater list, whose rest is told too.
func roomy(s string) (data, all []byte) {
	all = []byte(s + "......")
	return all[:len(s)], all
}

// TestBytesAreNotKept: who changes what was handed in, spare room included, changes no cache; nor does a cache change it.
func TestBytesAreNotKept(t *testing.T) {
	for _, c := range kinds(t) {
		k := holding(t, c, "2 1 0")
		put, allPut := roomy("aa")
		again, allAgain := roomy("bb")
		set, allSet := roomy("cc")
		for _, f := range []api.Frame{{Block: 5, Data: put}, {Block: 1, Data: put}, {Block: 1, Data: again}} {
			k.Put(f, 1)
		}
		k.Set(api.Frame{Block: 2, Data: set})
		k.Set(api.Frame{Block: 9, Data: set})
		if string(allPut) != "aa......" || string(allAgain) != "bb......" || string(allSet) != "cc......" {
			t.Errorf("%q %q %q", allPut, allAgain, allSet)
		}
		for _, l := range [][]byte{allPut, allAgain, allSet} {
			spoil(l, '!')
		}
		checkEnd(t, k, "1=bb 5=aa 2=cc 0")
	}
}

// TestWhatIsAnsweredIsNew: who changes it, spare room included, changes neither the cache nor another answer.
func TestWhatIsAnsweredIsNew(t *testing.T) {
	for _, c := range kinds(t) {
		const s = "8 1 9=aa 0 5 4"
		k := holding(t, c, s)
		for range 2 {
			one, _ := k.Use(9)
			other, _ := k.Use(9)
			spoil(one, '!')
			if string(other) != "aa" {
				t.Errorf("%q", other)
			}
			spoil(other, '!')
		}
		one, other := k.All(), k.All()
		spoil(one, 77)
		if !slices.Equal(other, []int{9, 8, 1, 0, 5, 4}) {
			t.Error(other)
		}
		spoil(other, 77)
		checkEnd(t, k, "9=aa 8 1 0 5 4")
	}
}

// TestWhatWentIsNew: a victim's bytes, and those of a block that was dropped, are nobody else's, whatever comes then.
func TestWhatWentIsNew(t *testing.T) {
	for _, c := range []api.Config{plain(2), queued(2, 2, 9, 2), leveled(2), parted(t, 2, "0+10:1")} {
		k := holding(t, c, "1=bb 0=aa")
		used, _ := k.Use(1)
		victim, _, _ := k.Put(frameOf(t, "2=cc"), 1)
		dropped, _ := k.Drop(1)
		all := [][]byte{used, victim.Data, dropped.Data}
		want := []string{"bb", "aa", "bb"}
		for _, f := range []string{"0=dd", "1=ee", "0=ff"} {
			k.Put(frameOf(t, f), 1)
			k.Set(frameOf(t, f))
			k.Use(frameOf(t, f).Block)
		}
		for i, b := range all {
			if string(b) != want[i] {
				t.Errorf("%d: %q, not %q", i, b, want[i])
			}
			for _, other := range all[i+1:] {
				was := bytes.Clone(other[:cap(other)])
				spoil(b, '!')
				if !bytes.Equal(other[:cap(other)], was) {
					t.Errorf("%d: %q, not %q", i, other, was)
				}
			}
		}
		checkEnd(t, k, "0=ff 1=ee")
	}
}

// TestAnAnswerStays: what is done behind it doesn't change it.
func TestAnAnswerStays(t *testing.T) {
	for _, c := range kinds(t) {
		k := holding(t, c, "8 1 9 0 5 4")
		all := k.All()
		data, _ := k.Use(9)
		k.Set(frameOf(t, "9=xx"))
		k.Put(frameOf(t, "9=yy"), 1)
		k.Drop(1)
		k.Clear()
		checkPut(t, k, "9=zz", "")
		if !slices.Equal(all, []int{8, 1, 9, 0, 5, 4}) || string(data) != "09" {
			t.Error(all, string(data))
		}
	}
}

// TestConfigurationIsNotKept: who changes its hints changes no cache, be it cleared then or not; they aren't changed either.
func TestConfigurationIsNotKept(t *testing.T) {
	for _, cleared := range []bool{false, true} {
		c := parted(t, 4, "4+4:1 0+4:2o")
		c.Hints = append(c.Hints, api.Hint{From: 15, Size: 2, Often: 3})[:2]
		was := slices.Clone(c.Hints[:3])
		k := newCache(t, c, 1)
		for block := range 20 {
			k.Takes(block, 1)
			k.Put(frameOf(t, "1"), 1)
		}
		k.Clear()
		if !slices.Equal(c.Hints[:3], was) {
			t.Errorf("%v, not %v", c.Hints[:3], was)
		}
		spoil(c.Hints, api.Hint{From: 8, Size: 40, Often: -3})
		if cleared {
			k.Clear()
		}
		checkTakes(t, k, 0, []int{0, 1, 2, 3})
		for _, b := range strings.Fields("0 1 2 3") {
			checkPut(t, k, b, "")
		}
		checkEnd(t, k, "3 2 1 0")
	}
}

// TestTargetKeepsNothing: it changes no hints, and answers anew each time.
func TestTargetKeepsNothing(t *testing.T) {
	c := parted(t, 2, "4+2:1 0+2:2")
	was := slices.Clone(c.Hints)
	for range 2 {
		checkTarget(t, c, 4, 0, 2)
		checkTarget(t, c, 0, 0, 1)
		if !slices.Equal(c.Hints, was) {
			t.Fatal(c.Hints)
		}
	}
	c.Hints[0].Often = 5
	checkTarget(t, c, 4, 0, 1)
	checkTarget(t, c, 0, 0, 2)
}
