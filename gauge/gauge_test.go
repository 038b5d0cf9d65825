package gauge

import (
	"math"
	"math/big"
	"slices"
	"strings"
	"testing"
)

const limit = 1 << 40

var (
	none    = math.NaN()
	endless = math.Inf(1)
	minus0  = math.Copysign(0, -1)
)

// noNumbers is no number in several of its bit patterns: with and without a sign, quiet and signalling.
func noNumbers() []float64 {
	return []float64{none, -none, math.Float64frombits(0x7ff0000000000001), math.Float64frombits(0xfff8000000000000), math.Float64frombits(math.MaxUint64)}
}

// rising is floats, each less than the next.
func rising() []float64 {
	return []float64{-endless, -math.MaxFloat64, -1e15, -limit, math.Nextafter(-1, -2), -1, math.Nextafter(-1, 0), -1e-300, -math.SmallestNonzeroFloat64, minus0,
		0, math.SmallestNonzeroFloat64, 1e-300, math.Nextafter(1, 0), 1, math.Nextafter(1, 2), limit, 1e15, math.MaxFloat64, endless, none}
}

// alike holds floats against one another bit by bit, but takes each no number for the other.
func alike(a, b float64) bool {
	return math.IsNaN(a) && math.IsNaN(b) || math.Float64bits(a) == math.Float64bits(b)
}

// P1.1

func TestShareEdges(t *testing.T) {
	for _, r := range []struct {
		part, whole int
		want        float64
	}{
		{0, 0, none}, {1, 0, endless}, {-1, 0, -endless}, {limit, 0, endless}, {-limit, 0, -endless},
		{0, 1, 0}, {0, limit, 0}, {0, -1, minus0}, {0, -limit, minus0},
		{1, 4, 0.25}, {-1, 4, -0.25}, {1, -4, -0.25}, {-1, -4, 0.25}, {7, 7, 1}, {3, 2, 1.5}, {1, 3, 1.0 / 3},
		{limit, limit, 1}, {-limit, limit, -1}, {limit, -limit, -1}, {-limit, -limit, 1}, {limit, 1, limit}, {1, limit, 1.0 / limit}, {limit - 1, limit, 1 - 1.0/limit},
	} {
		if got := Share(r.part, r.whole); !alike(got, r.want) {
			t.Errorf("Share(%d, %d): %v, not %v", r.part, r.whole, got, r.want)
		}
	}
}

func TestShareRefuses(t *testing.T) {
	for _, far := range []int{limit + 1, -limit - 1, math.MaxInt, math.MinInt} {
		for _, other := range []int{0, 1, -1, limit, -limit, limit + 1, far} {
			if got := Share(far, other); !math.IsNaN(got) {
				t.Errorf("Share(%d, %d): %v", far, other, got)
			}
			if got := Share(other, far); !math.IsNaN(got) {
				t.Errorf("Share(%d, %d): %v", other, far, got)
			}
		}
	}
}

func TestShareIsTheNearest(t *testing.T) {
	numbers := []int{1, 2, 3, 5, 7, 10, 97, 100, 1000, 65521, 1<<31 - 1, 1 << 32, 999999999989, limit - 1, limit}
	for _, part := range numbers {
		for _, whole := range numbers {
			for _, sign := range []int{1, -1} {
				want, _ := big.NewRat(int64(sign*part), int64(whole)).Float64()
				if got := Share(sign*part, whole); got != want {
					t.Errorf("Share(%d, %d): %v, not %v", sign*part, whole, got, want)
				}
				if got := Share(part, sign*whole); got != want {
					t.Errorf("Share(%d, %d): %v, not %v", part, sign*whole, got, want)
				}
			}
		}
	}
}

func TestLessAndSame(t *testing.T) {
	l := rising()
	for i, a := range l {
		for j, b := range l {
			if got := Less(a, b); got != (i < j) {
				t.Errorf("Less(%v, %v): %v", a, b, got)
			}
			if got := Same(a, b); got != (i == j) {
				t.Errorf("Same(%v, %v): %v", a, b, got)
			}
		}
	}
}

func TestNoNumberIsLast(t *testing.T) {
	for _, a := range noNumbers() {
		for _, b := range noNumbers() {
			if Less(a, b) || !Same(a, b) {
				t.Errorf("%x and %x", math.Float64bits(a), math.Float64bits(b))
			}
		}
		for _, b := range rising() {
			if Less(a, b) || Less(b, a) == math.IsNaN(b) || Same(a, b) != math.IsNaN(b) {
				t.Errorf("%x and %v", math.Float64bits(a), b)
			}
		}
	}
}

// P1.2

func TestText(t *testing.T) {
	for _, r := range []struct {
		x    float64
		want string
	}{
		{endless, "endless"}, {-endless, "-endless"}, {0, "0.00"}, {minus0, "-0.00"},
		{1, "1.00"}, {-1, "-1.00"}, {12.5, "12.50"}, {-2.5, "-2.50"}, {0.05, "0.05"}, {0.5, "0.50"}, {99.99, "99.99"}, {100, "100.00"}, {1234567.125, "1234567.12"},
		{0.125, "0.12"}, {0.009, "0.00"}, {-0.009, "-0.00"}, {0.999, "0.99"}, {-1.999, "-1.99"}, {math.Nextafter(1, 0), "0.99"},
		{math.SmallestNonzeroFloat64, "0.00"}, {-math.SmallestNonzeroFloat64, "-0.00"},
		{limit, "1099511627776.00"}, {-limit, "-1099511627776.00"},
		{1e15, "big"}, {-1e15, "-big"}, {math.Nextafter(1e15, endless), "big"}, {math.MaxFloat64, "big"}, {-math.MaxFloat64, "-big"},
		{9e14, "900000000000000.00"}, {999999999999999, "999999999999999.04"}, {-999999999999999, "-999999999999999.04"}, {math.Nextafter(1e15, 0), "999999999999999.84"}, {math.Nextafter(-1e15, 0), "-999999999999999.84"},
	} {
		if got := Text(r.x); got != r.want {
			t.Errorf("Text(%v): %s, not %s", r.x, got, r.want)
		}
	}
	for _, x := range noNumbers() {
		if got := Text(x); got != "none" {
			t.Errorf("Text of %x: %s", math.Float64bits(x), got)
		}
	}
}

// What is told is float64's own product: 0.29 is a little below 29 hundredths, and stays so; 0.35 is a little below 35, and 100 times it is rounded up to 35.
func TestTextMultipliesAsFloat64Does(t *testing.T) {
	for _, r := range []struct {
		x    float64
		want string
	}{{0.29, "0.28"}, {0.57, "0.56"}, {1.15, "1.14"}, {0.35, "0.35"}, {-0.35, "-0.35"}, {0.07, "0.07"}, {1.1, "1.10"}} {
		if got := Text(r.x); got != r.want {
			t.Errorf("Text(%v): %s, not %s", r.x, got, r.want)
		}
	}
	for x := 0.001; x < 1e15; x *= 1.37 {
		if got, want := Text(x), reckoned(x); got != want {
			t.Errorf("Text(%v): %s, not %s", x, got, want)
		}
	}
	for part := range 3000 {
		for _, whole := range []int{3, 7, 100, 997, 1000} {
			x := Share(part, whole)
			if got, want := Text(x), reckoned(x); got != want {
				t.Errorf("Text(%v): %s, not %s", x, got, want)
			}
		}
	}
}

// reckoned is Text of an x from 0 on that is not big, by numbers without bounds: the product is rounded once, to 53 digits.
func reckoned(x float64) string {
	product := new(big.Float).SetPrec(53).Mul(big.NewFloat(x), big.NewFloat(100))
	hundredths, _ := product.Int(nil)
	digits := hundredths.String()
	if len(digits) < 3 {
		digits = strings.Repeat("0", 3-len(digits)) + digits
	}
	return digits[:len(digits)-2] + "." + digits[len(digits)-2:]
}

func TestTextOfShare(t *testing.T) {
	for _, r := range []struct {
		part, whole int
		want        string
	}{{1, 3, "0.33"}, {2, 3, "0.66"}, {-2, 3, "-0.66"}, {0, 0, "none"}, {9, 0, "endless"}, {-9, 0, "-endless"}, {0, 5, "0.00"}, {0, -5, "-0.00"}, {limit + 1, 1, "none"}, {1, -limit, "-0.00"}} {
		if got := Text(Share(r.part, r.whole)); got != r.want {
			t.Errorf("Text(Share(%d, %d)): %s, not %s", r.part, r.whole, got, r.want)
		}
	}
}

func TestBest(t *testing.T) {
	for _, r := range []struct {
		l    []float64
		want int
	}{
		{nil, -1}, {[]float64{}, -1}, {[]float64{none}, -1}, {noNumbers(), -1},
		{[]float64{7}, 0}, {[]float64{1, 3, 2}, 1}, {[]float64{1, 3, 2, 3}, 1}, {[]float64{-2, -1, -3}, 1}, {[]float64{3, 2, 1}, 0}, {[]float64{1, 2, 3}, 2},
		{[]float64{none, -4}, 1}, {[]float64{-4, none}, 0}, {[]float64{none, 1, none, 2, none}, 3},
		{[]float64{-endless}, 0}, {[]float64{none, -endless, -endless}, 1}, {[]float64{-endless, -math.MaxFloat64}, 1},
		{[]float64{5, endless, none, endless}, 1}, {[]float64{math.MaxFloat64, endless}, 1},
		{[]float64{minus0, 0, 0}, 1}, {[]float64{0, minus0}, 0}, {[]float64{minus0, minus0}, 0}, {[]float64{-1, minus0}, 1},
	} {
		if got := Best(r.l...); got != r.want {
			t.Errorf("Best(%v): %d, not %d", r.l, got, r.want)
		}
	}
}

func TestBestLeavesTheListAsItIs(t *testing.T) {
	whole := []float64{2, none, 1, minus0, endless, 9}
	before := slices.Clone(whole)
	if got := Best(whole[:4]...); got != 0 {
		t.Errorf("what lies behind the list was read: %d", got)
	}
	if !slices.EqualFunc(whole, before, alike) {
		t.Errorf("%v was changed to %v", before, whole)
	}
}
