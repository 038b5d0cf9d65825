package huff

import (
	"math"
	"math/rand"
	"slices"
	"strconv"
	"strings"
	"testing"

	"florilegium/api"
	"florilegium/bits"
)

// made is the table of lengths that may be.
func made(t *testing.T, lengths []int) *Table {
	t.Helper()
	h, e := New(lengths)
	if e != api.OK || h == nil {
		t.Fatalf("New(%v): %v, %d", lengths, h, e)
	}
	return h
}

// text is the digits of a code, the highest first; "-" if there is none.
func text(h *Table, sign int) string {
	code, length, ok := h.Code(sign)
	if !ok {
		return "-"
	}
	digits := strconv.FormatInt(int64(code), 2)
	if code == 0 {
		digits = ""
	}
	return strings.Repeat("0", length-len(digits)) + digits
}

func texts(h *Table, signs int) []string {
	var l []string
	for sign := range signs {
		l = append(l, text(h, sign))
	}
	return l
}

// dealt is the codes that the document gives to lengths, reckoned as texts: each one is the one ahead of it, and one
// more, with noughts up to its own length behind it.
func dealt(lengths []int) []string {
	l := make([]string, len(lengths))
	for i := range l {
		l[i] = "-"
	}
	last := ""
	for length := 1; length <= 15; length++ {
		for sign, own := range lengths {
			if own != length {
				continue
			}
			if last != "" {
				last = oneMore(last)
			}
			last += strings.Repeat("0", length-len(last))
			l[sign] = last
		}
	}
	return l
}

func oneMore(digits string) string {
	at := strings.LastIndex(digits, "0")
	if at < 0 {
		return "one too many"
	}
	return digits[:at] + "1" + strings.Repeat("0", len(digits)-at-1)
}

// ofDigits is bytes whose digits are these, with noughts up to a whole byte behind them.
func ofDigits(digits string) []byte {
	b := make([]byte, (len(digits)+7)/8)
	for i, digit := range digits {
		if digit == '1' {
			b[i/8] |= 1 << (i % 8)
		}
	}
	return b
}

// readerOf has just these digits to give: noughts ahead of them, up to whole bytes, are taken already.
func readerOf(digits string) *bits.Reader {
	ahead := (8 - len(digits)%8) % 8
	r := bits.NewReader(ofDigits(strings.Repeat("0", ahead) + digits))
	r.Get(ahead)
	return r
}

// same is count lengths that are all the same.
func same(length, count int) []int {
	return slices.Repeat([]int{length}, count)
}

// stairs is 1, 2, .. up to deepest, and deepest once more.
func stairs(deepest int) []int {
	var l []int
	for length := 1; length <= deepest; length++ {
		l = append(l, length)
	}
	return append(l, deepest)
}

// anyLengths is lengths whose codes fill the room: signs that have a code, and signs that have none, in any order.
func anyLengths(chance *rand.Rand, signs, none int) []int {
	l := []int{0}
	for len(l) < signs {
		i := chance.Intn(len(l))
		if l[i] < 15 {
			l[i]++
			l = append(l, l[i])
		}
	}
	l = append(l, make([]int, none)...)
	chance.Shuffle(len(l), func(i, j int) { l[i], l[j] = l[j], l[i] })
	return l
}

// mayBe is whether the document takes lengths, reckoned with float64 (which has these sums without rounding).
func mayBe(lengths []int) bool {
	sum, codes := 0.0, 0
	for _, length := range lengths {
		if length < 0 || length > 15 {
			return false
		}
		if length > 0 {
			sum += math.Pow(2, -float64(length))
			codes++
		}
	}
	return len(lengths) <= 320 && (sum == 1 || codes == 0 || codes == 1 && sum == 0.5)
}

// P3.1: New and Code

func TestCodesByTheirLengths(t *testing.T) {
	for _, r := range []struct {
		lengths []int
		want    string
	}{
		{[]int{1, 1}, "0 1"},
		{[]int{2, 2, 2, 2}, "00 01 10 11"},
		{[]int{2, 1, 2}, "10 0 11"},
		{[]int{2, 1, 3, 3}, "10 0 110 111"},
		{[]int{3, 3, 2, 1}, "110 111 10 0"},
		{[]int{1, 3, 3, 3, 3}, "0 100 101 110 111"},
		{[]int{3, 1, 3, 3, 3}, "100 0 101 110 111"},
		{[]int{3, 3, 3, 3, 3, 2, 4, 4}, "010 011 100 101 110 00 1110 1111"},
		{[]int{2, 4, 4, 4, 4, 2, 2}, "00 1100 1101 1110 1111 01 10"},
		{[]int{0, 2, 0, 2, 1, 0}, "- 10 - 11 0 -"},
		{[]int{0, 0, 1, 0, 1}, "- - 0 - 1"},
	} {
		h := made(t, r.lengths)
		if got := strings.Join(texts(h, len(r.lengths)), " "); got != r.want {
			t.Errorf("%v: %s, not %s", r.lengths, got, r.want)
		}
	}
}

func TestNoCodeAtAll(t *testing.T) {
	for _, lengths := range [][]int{nil, {}, {0}, {0, 0, 0}, make([]int, 320)} {
		h := made(t, lengths)
		for sign := -1; sign <= len(lengths); sign++ {
			if code, length, ok := h.Code(sign); code != 0 || length != 0 || ok {
				t.Errorf("%v: Code(%d): %d, %d, %v", lengths, sign, code, length, ok)
			}
		}
	}
}

func TestJustOneCode(t *testing.T) {
	for _, signs := range []int{1, 2, 3, 320} {
		for _, at := range []int{0, signs / 2, signs - 1} {
			lengths := make([]int, signs)
			lengths[at] = 1
			h := made(t, lengths)
			for sign := range signs {
				want := "-"
				if sign == at {
					want = "0"
				}
				if got := text(h, sign); got != want {
					t.Errorf("%d of %d: the code of %d is %s", at, signs, sign, got)
				}
			}
			for length := 2; length <= 15; length++ {
				lengths[at] = length
				if h, e := New(lengths); h != nil || e != api.ErrForm {
					t.Errorf("one of %d among %d: %v, %d", length, signs, h, e)
				}
			}
		}
	}
}

func TestLengthsThatAreRefused(t *testing.T) {
	for _, r := range []struct {
		what    string
		lengths []int
	}{
		{"three of 1", []int{1, 1, 1}},
		{"no room is left for 15", []int{1, 1, 15}},
		{"five of 2", same(2, 5)},
		{"too many at the end", []int{1, 2, 3, 3, 3}},
		{"too many at the beginning", []int{3, 3, 1, 2, 1}},
		{"one of 15 too many", append(stairs(15), 15)},
		{"320 of 1", same(1, 320)},
		{"257 of 8", same(8, 257)},
		{"1 and 2", []int{1, 2}},
		{"two of 2", []int{2, 2}},
		{"three of 2", []int{2, 2, 2}},
		{"two of 1, one of them as 2", []int{1, 0, 2}},
		{"one of 15 too few", stairs(15)[:15]},
		{"255 of 8", same(8, 255)},
		{"320 of 9", same(9, 320)},
		{"320 of 15", same(15, 320)},
		{"-1 beside two of 1", []int{1, -1, 1}},
		{"-1 alone", []int{-1}},
		{"the least", []int{1, 1, math.MinInt}},
		{"-16 ahead", []int{-16, 1, 1}},
		{"16 beside two of 1", []int{1, 1, 16}},
		{"16 alone", []int{16}},
		{"stairs up to 16", stairs(16)},
		{"64", []int{1, 1, 64}},
		{"the greatest", []int{1, 1, math.MaxInt}},
		{"321 signs without a code", make([]int, 321)},
		{"321 signs, two codes", append([]int{1, 1}, make([]int, 319)...)},
		{"321 signs, one code", append(make([]int, 320), 1)},
		{"512 signs of 9", same(9, 512)},
	} {
		if h, e := New(r.lengths); h != nil || e != api.ErrForm {
			t.Errorf("%s: %v, %d", r.what, h, e)
		}
	}
}

func TestEveryFewLengths(t *testing.T) {
	offered := []int{-1, 0, 1, 2, 3, 4, 15, 16}
	for signs := 0; signs <= 5; signs++ {
		every := 1
		for range signs {
			every *= len(offered)
		}
		for n := range every {
			lengths := make([]int, signs)
			for i := range lengths {
				lengths[i] = offered[n%len(offered)]
				n /= len(offered)
			}
			h, e := New(lengths)
			if !mayBe(lengths) {
				if h != nil || e != api.ErrForm {
					t.Fatalf("New(%v): %v, %d", lengths, h, e)
				}
				continue
			}
			if e != api.OK || !slices.Equal(texts(h, signs), dealt(lengths)[:signs]) {
				t.Fatalf("New(%v): %v, %d", lengths, texts(h, signs), e)
			}
		}
	}
}

func TestLengthOf15(t *testing.T) {
	h := made(t, stairs(15))
	for sign, want := range map[int][2]int{0: {0, 1}, 1: {2, 2}, 13: {1<<14 - 2, 14}, 14: {1<<15 - 2, 15}, 15: {1<<15 - 1, 15}} {
		if code, length, ok := h.Code(sign); code != want[0] || length != want[1] || !ok {
			t.Errorf("Code(%d): %d, %d, %v", sign, code, length, ok)
		}
	}
	goThroughBytes(t, stairs(15), []int{15, 14, 0, 13, 15, 7})
}

func Test320Signs(t *testing.T) {
	// 192 of 8 leave a fourth of the room: 128 of 9
	lengths := append(same(8, 192), same(9, 128)...)
	h := made(t, lengths)
	if code, length, ok := h.Code(319); code != 511 || length != 9 || !ok {
		t.Errorf("%d, %d, %v", code, length, ok)
	}
	if got := texts(h, 320); !slices.Equal(got, dealt(lengths)) {
		t.Errorf("%v", got)
	}
	goThroughBytes(t, lengths, []int{0, 319, 191, 192, 1, 318})
}

func TestSignsBeyond(t *testing.T) {
	h := made(t, []int{2, 1, 0, 2})
	for _, sign := range []int{-1, 4, 5, 319, 320, math.MinInt, math.MaxInt} {
		if code, length, ok := h.Code(sign); code != 0 || length != 0 || ok {
			t.Errorf("Code(%d): %d, %d, %v", sign, code, length, ok)
		}
	}
	if code, length, ok := h.Code(2); code != 0 || length != 0 || ok {
		t.Errorf("without a code: %d, %d, %v", code, length, ok)
	}
}

func TestLengthsAreNeitherChangedNorKept(t *testing.T) {
	memory := []int{2, 1, 2, 7, 7}
	h := made(t, memory[:3])
	if !slices.Equal(memory, []int{2, 1, 2, 7, 7}) {
		t.Fatalf("changed: %v", memory)
	}
	for i := range memory {
		memory[i] = 9
	}
	if got := strings.Join(texts(h, 5), " "); got != "10 0 11 - -" {
		t.Errorf("kept: %s", got)
	}
	if sign, ok := h.Get(readerOf("11")); sign != 2 || !ok {
		t.Errorf("kept: %d, %v", sign, ok)
	}
}

// P3.1: Put and Get

// goThroughBytes puts signs, asks for the very digits, and gets the signs again.
func goThroughBytes(t *testing.T, lengths, signs []int) {
	t.Helper()
	h, codes, digits := made(t, lengths), dealt(lengths), ""
	w := bits.NewWriter()
	for _, sign := range signs {
		if !h.Put(w, sign) {
			t.Fatalf("%v: Put of %d", lengths, sign)
		}
		digits += codes[sign]
	}
	if got := w.Bytes(); !slices.Equal(got, ofDigits(digits)) {
		t.Fatalf("%v: %x, not %s", lengths, got, digits)
	}
	r := readerOf(digits)
	for i, sign := range signs {
		if got, ok := h.Get(r); got != sign || !ok {
			t.Fatalf("%v: sign %d is %d, %v, not %d", lengths, i, got, ok, sign)
		}
	}
	if r.Left() != 0 || r.Bad() {
		t.Fatalf("%v: left %d, bad %v", lengths, r.Left(), r.Bad())
	}
	if got, ok := h.Get(r); got != 0 || ok {
		t.Fatalf("%v: behind the end %d, %v", lengths, got, ok)
	}
}

func TestPutAndGet(t *testing.T) {
	goThroughBytes(t, []int{1, 1}, []int{0, 1, 1, 0, 1, 1, 1, 0, 1, 0})
	goThroughBytes(t, []int{2, 1, 3, 3}, []int{1, 0, 3, 2, 1, 1, 3})
	goThroughBytes(t, []int{1, 3, 3, 3, 3}, []int{4, 0, 1, 3, 2})
	goThroughBytes(t, []int{0, 1}, []int{1, 1, 1})
	goThroughBytes(t, []int{0, 0, 4, 4, 3, 2, 1}, []int{6, 5, 4, 3, 2})
}

func TestPutAndGetOfAnyCodes(t *testing.T) {
	chance := rand.New(rand.NewSource(3))
	for range 300 {
		count := 2 + chance.Intn(319)
		lengths := anyLengths(chance, count, chance.Intn(321-count))
		if got := texts(made(t, lengths), len(lengths)); !slices.Equal(got, dealt(lengths)) {
			t.Fatalf("%v: %v", lengths, got)
		}
		var signs []int
		for len(signs) < 50 {
			if sign := chance.Intn(len(lengths)); lengths[sign] > 0 {
				signs = append(signs, sign)
			}
		}
		goThroughBytes(t, lengths, signs)
	}
}

func TestPutOfNoneWritesNothing(t *testing.T) {
	h, none := made(t, []int{2, 1, 0, 2}), made(t, nil)
	w := bits.NewWriter()
	for _, sign := range []int{2, -1, 4, 320, math.MinInt, math.MaxInt} {
		if h.Put(w, sign) || none.Put(w, sign) {
			t.Errorf("Put of %d", sign)
		}
	}
	if none.Put(w, 0) || len(w.Bytes()) != 0 {
		t.Errorf("written: %x", w.Bytes())
	}
	if !h.Put(w, 3) || h.Put(w, 2) || !h.Put(w, 0) {
		t.Error("among others")
	}
	if got := w.Bytes(); !slices.Equal(got, ofDigits("1110")) {
		t.Errorf("%x", got)
	}
}

func TestPutGoesOnInAByte(t *testing.T) {
	h := made(t, stairs(15))
	w := bits.NewWriter()
	w.Put(0, 5)
	h.Put(w, 14)
	w.Put(1, 1)
	if got := w.Bytes(); !slices.Equal(got, ofDigits("00000"+"111111111111110"+"1")) {
		t.Errorf("%x", got)
	}
}

func TestGetTakesJustTheCode(t *testing.T) {
	h := made(t, []int{2, 1, 3, 3})
	r := readerOf("110" + "0" + "10" + "1")
	for i, want := range []struct{ sign, left int }{{2, 4}, {1, 3}, {0, 1}} {
		if sign, ok := h.Get(r); sign != want.sign || !ok || r.Left() != want.left {
			t.Errorf("%d: %d, %v, left %d", i, sign, ok, r.Left())
		}
	}
	if r.Bit() != 1 || r.Bad() {
		t.Error("what is behind the codes")
	}
}

func TestDigitsEndWithinACode(t *testing.T) {
	for _, lengths := range [][]int{{1, 1}, {2, 1, 3, 3}, {1, 3, 3, 3, 3}, stairs(15), same(5, 32)} {
		h := made(t, lengths)
		for sign, code := range dealt(lengths) {
			for short := range len(code) {
				if got, ok := h.Get(readerOf(code[:short])); got != 0 || ok {
					t.Errorf("%v: %d digits of sign %d: %d, %v", lengths, short, sign, got, ok)
				}
			}
		}
	}
}

func TestDigitsThatNoCodeHas(t *testing.T) {
	for _, digits := range []string{"1", "10", "11111111", strings.Repeat("1", 32), "1" + strings.Repeat("0", 31)} {
		for _, lengths := range [][]int{{1}, {0, 1}, {0, 1, 0}, append(make([]int, 319), 1)} {
			if sign, ok := made(t, lengths).Get(readerOf(digits)); sign != 0 || ok {
				t.Errorf("%v of %s: %d, %v", lengths, digits, sign, ok)
			}
		}
	}
	for _, digits := range []string{"", "0", "1", strings.Repeat("0", 64), strings.Repeat("1", 64)} {
		for _, lengths := range [][]int{nil, {0}, make([]int, 320)} {
			if sign, ok := made(t, lengths).Get(readerOf(digits)); sign != 0 || ok {
				t.Errorf("no codes, of %s: %d, %v", digits, sign, ok)
			}
		}
	}
}

func TestGetFromABadReader(t *testing.T) {
	h := made(t, []int{1, 1})
	r := bits.NewReader([]byte{0})
	r.Get(9)
	if sign, ok := h.Get(r); sign != 0 || ok || r.Left() != 8 || !r.Bad() {
		t.Errorf("%d, %v, left %d, bad %v", sign, ok, r.Left(), r.Bad())
	}
}

func TestGetDoesNotSpoilTheReader(t *testing.T) {
	r := readerOf("11")
	if sign, ok := made(t, []int{2, 1, 3, 3}).Get(r); sign != 0 || ok || r.Bad() {
		t.Errorf("%d, %v, bad %v", sign, ok, r.Bad())
	}
}

// P3.1: Fixed

func TestFixed(t *testing.T) {
	lits, dists := Fixed()
	want := slices.Concat(same(8, 144), same(9, 112), same(7, 24), same(8, 8))
	if !slices.Equal(lits, want) || !slices.Equal(dists, same(5, 32)) {
		t.Fatalf("%v, %v", lits, dists)
	}
	h, d := made(t, lits), made(t, dists)
	for sign, want := range map[int]string{
		0: "00110000", 143: "10111111", 144: "110010000", 255: "111111111", 256: "0000000", 279: "0010111", 280: "11000000", 287: "11000111",
	} {
		if got := text(h, sign); got != want {
			t.Errorf("literal %d: %s, not %s", sign, got, want)
		}
	}
	for sign, want := range map[int]string{0: "00000", 1: "00001", 29: "11101", 31: "11111"} {
		if got := text(d, sign); got != want {
			t.Errorf("distance %d: %s, not %s", sign, got, want)
		}
	}
	goThroughBytes(t, lits, []int{0, 143, 144, 255, 256, 279, 280, 287})
	goThroughBytes(t, dists, []int{0, 31, 17})
}

func TestFixedIsNewMemory(t *testing.T) {
	lits, dists := Fixed()
	clear(lits)
	clear(dists)
	again, behind := Fixed()
	if again[0] != 8 || again[287] != 8 || behind[0] != 5 || behind[31] != 5 {
		t.Error("what was handed out is handed out again")
	}
}
