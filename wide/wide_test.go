package wide_test

import (
	"math"
	"math/big"
	"testing"

	"gradine/api"
	"gradine/wide"
)

const (
	maxHalf   = 1<<16 - 1
	maxWord   = 1<<32 - 1
	maxFactor = 1<<31 - 1
)

// words are those whose halves are near an edge, and some in between; rising.
func words() []int {
	halves := []int{0, 1, 2, 3, 255, 256, 32766, 32767, 32768, 32769, 54321, maxHalf - 1, maxHalf}
	var l []int
	for _, h := range halves {
		for _, low := range halves {
			l = append(l, h<<16+low)
		}
	}
	return l
}

// factors are the words that Mul takes.
func factors() []int {
	var l []int
	for _, n := range words() {
		if n <= maxFactor {
			l = append(l, n)
		}
	}
	return l
}

// beyond are the numbers that aren't from 0 to most: those next to it, and those that would wrap round.
func beyond(most int) []int {
	return []int{math.MinInt64, math.MinInt64 + 1, -1 << 32, -1 << 31, -2, -1, most + 1, most + 2, 1 << 33, 1 << 40, 1<<63 - 2, math.MaxInt64}
}

func TestPoint(t *testing.T) {
	for _, x := range []struct {
		n    int
		want complex128
	}{
		{0, 0}, {1, 1i}, {2, 2i}, {maxHalf, 65535i},
		{1 << 16, 1}, {1<<16 + 1, 1 + 1i}, {65538, 1 + 2i}, {2<<16 + 1, 2 + 1i},
		{maxFactor, 32767 + 65535i}, {1 << 31, 32768},
		{maxHalf << 16, 65535}, {maxWord - 1, 65535 + 65534i}, {maxWord, 65535 + 65535i},
	} {
		if p, e := wide.Point(x.n); p != x.want || e != api.OK {
			t.Errorf("Point(%d): %v %d, not %v", x.n, p, int(e), x.want)
		}
	}
}

func TestPointOfNoWord(t *testing.T) {
	for _, n := range beyond(maxWord) {
		if p, e := wide.Point(n); p != 0 || e != api.ErrRange {
			t.Errorf("Point(%d): %v %d", n, p, int(e))
		}
	}
}

func TestParts(t *testing.T) {
	for _, x := range []struct{ x, y, high, middle, low int }{
		{0, 0, 0, 0, 0}, {0, maxWord, 0, 0, 0}, {maxWord, 0, 0, 0, 0},
		{1, 1, 0, 0, 1}, {1 << 16, 1 << 16, 1, 0, 0}, {1 << 16, 1, 0, 1, 0}, {1, 1 << 16, 0, 1, 0},
		{3<<16 + 4, 5<<16 + 6, 15, 38, 24}, {5<<16 + 6, 3<<16 + 4, 15, 38, 24},
		{maxHalf, maxHalf, 0, 0, 4294836225},
		{maxHalf << 16, maxHalf << 16, 4294836225, 0, 0},
		{maxHalf << 16, maxHalf, 0, 4294836225, 0},
		{maxWord, 1, 0, 65535, 65535},
		{maxWord, maxWord, 4294836225, 8589672450, 4294836225},
	} {
		high, middle, low, e := wide.Parts(x.x, x.y)
		if high != x.high || middle != x.middle || low != x.low || e != api.OK {
			t.Errorf("Parts(%d, %d): %d %d %d %d, not %d %d %d", x.x, x.y, high, middle, low, int(e), x.high, x.middle, x.low)
		}
	}
}

func TestPartsAreTheHalvesProducts(t *testing.T) {
	for _, x := range words() {
		for _, y := range words() {
			high, middle, low, e := wide.Parts(x, y)
			a, b, c, d := x/65536, x%65536, y/65536, y%65536
			if high != a*c || middle != a*d+b*c || low != b*d || e != api.OK {
				t.Fatalf("Parts(%d, %d): %d %d %d %d", x, y, high, middle, low, int(e))
			}
		}
	}
}

// TestPartsMakeTheWordsProduct holds words' products, which are beyond an int, against those of numbers of any length.
func TestPartsMakeTheWordsProduct(t *testing.T) {
	for _, x := range words() {
		for _, y := range words() {
			high, middle, low, _ := wide.Parts(x, y)
			sum := new(big.Int).Lsh(big.NewInt(int64(high)), 16)
			sum.Add(sum, big.NewInt(int64(middle))).Lsh(sum, 16).Add(sum, big.NewInt(int64(low)))
			if sum.Cmp(product(x, y)) != 0 {
				t.Fatalf("Parts(%d, %d): %d %d %d make %s", x, y, high, middle, low, sum)
			}
		}
	}
}

func product(x, y int) *big.Int {
	return new(big.Int).Mul(big.NewInt(int64(x)), big.NewInt(int64(y)))
}

func TestPartsOfNoWord(t *testing.T) {
	check := func(x, y int) {
		if high, middle, low, e := wide.Parts(x, y); high != 0 || middle != 0 || low != 0 || e != api.ErrRange {
			t.Errorf("Parts(%d, %d): %d %d %d %d", x, y, high, middle, low, int(e))
		}
	}
	for _, n := range beyond(maxWord) {
		for _, ok := range []int{0, 1, 3<<16 + 4, maxWord} {
			check(n, ok)
			check(ok, n)
		}
		check(n, n)
	}
}

func TestMul(t *testing.T) {
	for _, x := range []struct{ x, y, want int }{
		{0, 0, 0}, {0, 5, 0}, {5, 0, 0}, {1, 1, 1}, {6, 7, 42},
		{maxHalf, maxHalf, 4294836225}, {65536, 65536, 1 << 32}, {65537, 65537, 4295098369},
		{65537, 3, 196611}, {123456789, 987654321, 121932631112635269},
		{94906267, 94906267, 9007199515875289}, // odd, and above 2^53: no float64 is as great
		{maxFactor, 1, maxFactor}, {maxFactor, 2, 4294967294},
		{maxFactor, maxFactor, 4611686014132420609}, {maxFactor, maxFactor - 1, 4611686011984936962},
	} {
		if p, e := wide.Mul(x.x, x.y); p != x.want || e != api.OK {
			t.Errorf("Mul(%d, %d): %d %d, not %d", x.x, x.y, p, int(e), x.want)
		}
	}
}

func TestProductsAreThoseOfWholeNumbers(t *testing.T) {
	for _, x := range factors() {
		for _, y := range factors() {
			p, e := wide.Mul(x, y)
			if e != api.OK || big.NewInt(int64(p)).Cmp(product(x, y)) != 0 {
				t.Fatalf("Mul(%d, %d): %d %d, not %s", x, y, p, int(e), product(x, y))
			}
		}
	}
	for x := range 300 {
		for y := range 300 {
			if p, e := wide.Mul(x, y); p != x*y || e != api.OK {
				t.Fatalf("Mul(%d, %d): %d %d", x, y, p, int(e))
			}
		}
	}
}

func TestMulBeyond(t *testing.T) {
	check := func(x, y int) {
		if p, e := wide.Mul(x, y); p != 0 || e != api.ErrRange {
			t.Errorf("Mul(%d, %d): %d %d", x, y, p, int(e))
		}
	}
	for _, n := range append(beyond(maxFactor), maxWord) {
		for _, ok := range []int{0, 1, 65537, maxFactor} {
			check(n, ok)
			check(ok, n)
		}
		check(n, n)
	}
}
