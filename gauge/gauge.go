// Package gauge: shares, in order. Go's own < has no place for no number and takes both noughts for one; Less has a place for each.
package gauge

import (
	"math"
	"strconv"
)

const (
	bound   = 1 << 40          // parts and wholes beyond it are refused
	bigFrom = 1000000000000000 // 10^15: from here on hundredths are not told
)

// Share is part divided by whole.
func Share(part, whole int) float64 {
	if !within(part) || !within(whole) {
		return math.NaN()
	}
	if whole == 0 {
		return ofNothing(part)
	}
	return float64(part) / float64(whole)
}

func within(n int) bool {
	return -bound <= n && n <= bound
}

// ofNothing is the share of a whole of 0. Go leaves open whether a division of floats by 0 panics, so there is none.
func ofNothing(part int) float64 {
	switch {
	case part > 0:
		return math.Inf(1)
	case part < 0:
		return math.Inf(-1)
	}
	return math.NaN()
}

// Less tells whether a stands ahead of b: endless below 0, the numbers, endless, no number.
func Less(a, b float64) bool {
	if math.IsNaN(a) {
		return false
	}
	if math.IsNaN(b) {
		return true
	}
	if a == b {
		// Only the two noughts are equal and yet not the same.
		return math.Signbit(a) && !math.Signbit(b)
	}
	return a < b
}

// Same tells whether neither is less than the other one.
func Same(a, b float64) bool {
	return !Less(a, b) && !Less(b, a)
}

// Text tells x in hundredths.
func Text(x float64) string {
	if math.IsNaN(x) {
		// Ahead of the sign, which no number may have, too.
		return "none"
	}
	if math.Signbit(x) {
		return "-" + unsigned(-x)
	}
	return unsigned(x)
}

// unsigned tells an x that has no minus and is not no number.
func unsigned(x float64) string {
	if math.IsInf(x, 1) {
		return "endless"
	}
	if x >= bigFrom {
		return "big"
	}
	return pointed(int64(math.Floor(x * 100)))
}

// pointed tells hundredths, which are not below 0.
func pointed(hundredths int64) string {
	rest := hundredths % 100
	return strconv.FormatInt(hundredths/100, 10) + "." + strconv.FormatInt(rest/10, 10) + strconv.FormatInt(rest%10, 10)
}

// Best is the place of the first greatest of l that is not no number, or -1.
func Best(l ...float64) int {
	best := -1
	for i, x := range l {
		if math.IsNaN(x) {
			// It is the greatest by Less, but never the best.
			continue
		}
		if best < 0 || Less(l[best], x) {
			best = i
		}
	}
	return best
}
