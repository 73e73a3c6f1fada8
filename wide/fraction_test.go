package wide_test

import (
	"math/big"
	"slices"
	"testing"

	"gradine/api"
	"gradine/wide"
)

// fractions are right ones: small ones in several shapes, and neighbours of the greatest numbers.
func fractions() []wide.Fraction {
	numbers := []int{0, 1, 2, 3, 4, 6, 65535, 65536, 65537, maxFactor - 2, maxFactor - 1, maxFactor}
	var l []wide.Fraction
	for _, top := range numbers {
		for _, bottom := range numbers[1:] {
			l = append(l, wide.Fraction{Top: top, Bottom: bottom})
		}
	}
	return l
}

// wrong are those that aren't.
func wrong() []wide.Fraction {
	l := []wide.Fraction{{}, {Top: 1}, {Top: -1, Bottom: -1}, {Top: maxFactor + 1, Bottom: maxFactor + 1}}
	for _, n := range beyond(maxFactor) {
		l = append(l, wide.Fraction{Top: n, Bottom: 1}, wide.Fraction{Top: 1, Bottom: n}, wide.Fraction{Bottom: n})
	}
	return l
}

func rat(f wide.Fraction) *big.Rat {
	return big.NewRat(int64(f.Top), int64(f.Bottom))
}

func TestRight(t *testing.T) {
	for _, f := range fractions() {
		if !wide.Right(f) {
			t.Errorf("%v isn't right", f)
		}
	}
	for _, f := range wrong() {
		if wide.Right(f) {
			t.Errorf("%v is right", f)
		}
	}
}

func TestCompare(t *testing.T) {
	for _, x := range []struct {
		a, b wide.Fraction
		want int
	}{
		{wide.Fraction{Top: 1, Bottom: 3}, wide.Fraction{Top: 2, Bottom: 6}, 0},
		{wide.Fraction{Top: 1, Bottom: 3}, wide.Fraction{Top: 1, Bottom: 2}, -1},
		{wide.Fraction{Top: 2, Bottom: 3}, wide.Fraction{Top: 1, Bottom: 2}, 1},
		{wide.Fraction{Top: 0, Bottom: 1}, wide.Fraction{Top: 0, Bottom: maxFactor}, 0},
		{wide.Fraction{Top: 0, Bottom: 1}, wide.Fraction{Top: 1, Bottom: maxFactor}, -1},
		{wide.Fraction{Top: maxFactor, Bottom: 1}, wide.Fraction{Top: maxFactor, Bottom: 2}, 1},
		{wide.Fraction{Top: maxFactor, Bottom: maxFactor}, wide.Fraction{Top: 1, Bottom: 1}, 0},
		// As float64 both are one number.
		{wide.Fraction{Top: maxFactor - 1, Bottom: maxFactor}, wide.Fraction{Top: maxFactor - 2, Bottom: maxFactor - 1}, 1},
		{wide.Fraction{Top: maxFactor - 2, Bottom: maxFactor - 1}, wide.Fraction{Top: maxFactor - 1, Bottom: maxFactor}, -1},
	} {
		if c, e := wide.Compare(x.a, x.b); c != x.want || e != api.OK {
			t.Errorf("Compare(%v, %v): %d %d, not %d", x.a, x.b, c, int(e), x.want)
		}
	}
}

func TestCompareWrong(t *testing.T) {
	check := func(a, b wide.Fraction) {
		if c, e := wide.Compare(a, b); c != 0 || e != api.ErrArg {
			t.Errorf("Compare(%v, %v): %d %d", a, b, c, int(e))
		}
	}
	for _, f := range wrong() {
		for _, ok := range []wide.Fraction{{Top: 0, Bottom: 1}, {Top: 1, Bottom: 3}, {Top: maxFactor, Bottom: maxFactor}} {
			check(f, ok)
			check(ok, f)
		}
		check(f, f)
	}
}

// TestGreaterIsAnOrder: what all pairs answer is that of the fractions themselves, whose order it is.
func TestGreaterIsAnOrder(t *testing.T) {
	l := fractions()
	for _, a := range l {
		for _, b := range l {
			c, e := wide.Compare(a, b)
			if c != rat(a).Cmp(rat(b)) || e != api.OK {
				t.Fatalf("Compare(%v, %v): %d %d", a, b, c, int(e))
			}
			if back, _ := wide.Compare(b, a); back != -c {
				t.Fatalf("Compare(%v, %v): %d, and back %d", a, b, c, back)
			}
		}
	}
}

func TestOrder(t *testing.T) {
	for _, x := range []struct {
		l    []wide.Fraction
		want []int
	}{
		{nil, nil},
		{[]wide.Fraction{}, nil},
		{[]wide.Fraction{{Top: 7, Bottom: 9}}, []int{0}},
		{[]wide.Fraction{{Top: 1, Bottom: 3}, {Top: 1, Bottom: 2}}, []int{1, 0}},
		{[]wide.Fraction{{Top: 1, Bottom: 2}, {Top: 1, Bottom: 3}}, []int{0, 1}},
		{[]wide.Fraction{{Top: 2, Bottom: 6}, {Top: 1, Bottom: 3}, {Top: 3, Bottom: 9}}, []int{0, 1, 2}},
		{[]wide.Fraction{{Top: 1, Bottom: 3}, {Top: 1, Bottom: 2}, {Top: 2, Bottom: 6}, {Top: 0, Bottom: 1}, {Top: 5, Bottom: 1}}, []int{4, 1, 0, 2, 3}},
		{[]wide.Fraction{{Top: maxFactor - 2, Bottom: maxFactor - 1}, {Top: maxFactor - 1, Bottom: maxFactor}}, []int{1, 0}},
	} {
		if o, e := wide.Order(x.l); !slices.Equal(o, x.want) || e != api.OK {
			t.Errorf("Order(%v): %v %d, not %v", x.l, o, int(e), x.want)
		}
	}
}

// many are so many fractions, few of which differ, and those that are as great in several shapes.
func many(n int) []wide.Fraction {
	l := make([]wide.Fraction, n)
	for i := range l {
		times := 1 + i%11
		l[i] = wide.Fraction{Top: times * (i * i % 7), Bottom: times * (1 + i%3)}
	}
	return l
}

// inOrder tells whether o has each place of l once, the greatest first, those that are as great in l's order.
func inOrder(l []wide.Fraction, o []int) bool {
	seen := make([]bool, len(l))
	for _, p := range o {
		if p < 0 || p >= len(l) || seen[p] {
			return false
		}
		seen[p] = true
	}
	for i := 1; i < len(o); i++ {
		c := rat(l[o[i-1]]).Cmp(rat(l[o[i]]))
		if c < 0 || c == 0 && o[i-1] > o[i] {
			return false
		}
	}
	return len(o) == len(l)
}

func TestOrderOfMany(t *testing.T) {
	lists := [][]wide.Fraction{fractions(), make([]wide.Fraction, 1000)}
	for i := range lists[1] {
		lists[1][i] = wide.Fraction{Top: i, Bottom: i + 1} // each above the one ahead: all of them turn round
	}
	for _, n := range []int{2, 12, 13, 50, 999, 1000} {
		lists = append(lists, many(n))
	}
	for _, l := range lists {
		if o, e := wide.Order(l); e != api.OK || !inOrder(l, o) {
			t.Errorf("Order of %d: %v %d", len(l), o, int(e))
		}
	}
}

func TestOrderWrong(t *testing.T) {
	for _, f := range wrong() {
		for _, n := range []int{1, 2, 20, 1000, 1001, 1500} {
			for _, at := range []int{0, n / 2, n - 1} {
				l := many(n)
				l[at] = f
				if o, e := wide.Order(l); len(o) != 0 || e != api.ErrArg {
					t.Errorf("Order of %d, of which %d is %v: %v %d", n, at, f, o, int(e))
				}
			}
		}
	}
}

func TestOrderFull(t *testing.T) {
	for _, n := range []int{1001, 1002, 5000} {
		if o, e := wide.Order(many(n)); len(o) != 0 || e != api.ErrFull {
			t.Errorf("Order of %d: %v %d", n, o, int(e))
		}
	}
}

func TestOrderKeepsAndSharesNothing(t *testing.T) {
	all := many(40)
	was := slices.Clone(all)
	first, _ := wide.Order(all[:30])
	second, _ := wide.Order(all[:30])
	want := slices.Clone(second)
	if !slices.Equal(all, was) {
		t.Error("Order wrote to what was handed in")
	}
	if !slices.Equal(first, second) {
		t.Errorf("twice the same call, %v and %v", first, second)
	}
	first = first[:cap(first)]
	for i := range first {
		first[i] = -1
	}
	clear(all)
	if !slices.Equal(second, want) {
		t.Errorf("an answer changed to %v", second)
	}
	if third, e := wide.Order(was[:30]); !slices.Equal(third, want) || e != api.OK {
		t.Errorf("a later answer is %v %d", third, int(e))
	}
}

// TestOrderDoesNotReadSpareRoom: what is behind the list's end may be wrong.
func TestOrderDoesNotReadSpareRoom(t *testing.T) {
	l := make([]wide.Fraction, 3, 2000)
	for i := range l {
		l[i] = wide.Fraction{Top: 1, Bottom: i + 1}
	}
	if o, e := wide.Order(l); !slices.Equal(o, []int{0, 1, 2}) || e != api.OK {
		t.Errorf("%v %d", o, int(e))
	}
}
