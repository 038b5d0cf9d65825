package flate

import (
	"bytes"
	std "compress/flate"
	"math/rand"
	"slices"
	"strconv"
	"strings"
	"testing"

	"florilegium/api"
)

// right is streams that are of the form, by what they do, and what they say.
func right() map[string]struct {
	build func(s *stream)
	want  string
} {
	type row = struct {
		build func(s *stream)
		want  string
	}
	return map[string]row{
		"stored, nothing": {func(s *stream) { s.stored(true, nil) }, ""},
		"stored":          {func(s *stream) { s.stored(true, []byte("abc")) }, "abc"},
		"stored, thrice":  {func(s *stream) { s.stored(false, []byte("a")); s.stored(false, nil); s.stored(true, []byte("bc")) }, "abc"},
		"fixed, nothing":  {func(s *stream) { s.head(true, 1); s.end() }, ""},
		"fixed":           {func(s *stream) { s.head(true, 1); s.lits("ab\xff"); s.end() }, "ab\xff"},
		"fixed, a row":    {func(s *stream) { s.head(true, 1); s.lits("ab"); s.row(5, 2); s.end() }, "abababa"},
		"fixed, digits":   {func(s *stream) { s.head(true, 1); s.lits("abcdefgh"); s.row(12, 7); s.end() }, "abcdefghbcdefghbcdef"},
		"fixed, twice": {func(s *stream) {
			s.head(false, 1)
			s.lits("a")
			s.end()
			s.head(true, 1)
			s.lits("b")
			s.end()
		}, "ab"},
		"fixed, 258":  {func(s *stream) { s.head(true, 1); s.lits("a"); s.row(258, 1); s.end() }, strings.Repeat("a", 259)},
		"told":        {func(s *stream) { s.ab(true); s.text(codeA + codeB + codeRow3 + codeDist + codeEnd) }, "abbbb"},
		"told, twice": {func(s *stream) { s.ab(false); s.text(codeA + codeEnd); s.ab(true); s.text(codeB + codeEnd) }, "ab"},
		"each kind": {func(s *stream) {
			s.stored(false, []byte("x"))
			s.ab(false)
			s.text(codeA + codeEnd)
			s.head(true, 1)
			s.lits("y")
			s.end()
		}, "xay"},
		"each kind, turned": {func(s *stream) {
			s.head(false, 1)
			s.lits("y")
			s.end()
			s.ab(false)
			s.text(codeA + codeEnd)
			s.stored(true, []byte("x"))
		}, "yax"},
		"row over a stored block's end": {func(s *stream) {
			s.stored(false, []byte("abcd"))
			s.head(true, 1)
			s.row(3, 3)
			s.end()
		}, "abcdbcd"},
		"row over several beginnings": {func(s *stream) {
			s.head(false, 1)
			s.lits("abc")
			s.end()
			s.stored(false, []byte("d"))
			s.head(false, 1)
			s.end()
			s.head(true, 1)
			s.lits("e")
			s.row(7, 5)
			s.end()
		}, "abcdeabcdeab"},
		"row of a told block over its beginning": {func(s *stream) {
			s.stored(false, []byte("q"))
			s.ab(true)
			s.text(codeRow3 + codeDist + codeEnd)
		}, "qqqq"},
	}
}

// P5.2: what blocks say

func TestUnpackOfEachKind(t *testing.T) {
	for name, r := range right() {
		checkUnpack(t, name, built(r.build), []byte(r.want))
	}
}

// shifted puts one block, of so many bytes of nine digits each, ahead of what build writes: by 0 to 7 of them what follows
// begins at each digit of a byte.
func shifted(by int, build func(s *stream)) []byte {
	return built(func(s *stream) {
		s.head(false, 1)
		s.lits(strings.Repeat("\xf0", by))
		s.end()
		build(s)
	})
}

func TestUnpackAtEachDigit(t *testing.T) {
	for name, r := range right() {
		for by := range 8 {
			checkUnpack(t, name, shifted(by, r.build), []byte(strings.Repeat("\xf0", by)+r.want))
		}
	}
}

func TestStoredLengthAtEachDigit(t *testing.T) {
	b := byChance(20, 700)
	for by := range 8 {
		checkUnpack(t, "700", shifted(by, func(s *stream) { s.stored(true, b) }), append(bytes.Repeat([]byte{0xf0}, by), b...))
	}
}

// withRow is what a row makes of the bytes ahead of it.
func withRow(b []byte, length, distance int) []byte {
	for range length {
		b = append(b, b[len(b)-distance])
	}
	return b
}

func TestEachLengthAndDistance(t *testing.T) {
	ahead := byChance(21, 32768)
	for name, back := range map[string]func(n int) int{
		"1":        func(n int) int { return 1 },
		"2":        func(n int) int { return 2 },
		"its own":  func(n int) int { return n },
		"one more": func(n int) int { return n + 1 },
		"far":      func(n int) int { return 500 + 3*n },
	} {
		want := bytes.Clone(ahead[:2000])
		b := built(func(s *stream) {
			s.stored(false, want)
			s.head(true, 1)
			for n := 3; n <= 258; n++ {
				s.lits("-")
				s.row(n, back(n))
				want = withRow(append(want, '-'), n, back(n))
			}
			s.end()
		})
		checkUnpack(t, "each length, from "+name, b, want)
	}
	want := bytes.Clone(ahead)
	b := built(func(s *stream) {
		s.stored(false, want)
		s.head(true, 1)
		for back := 1; back < 32768; back += 1 + back/60 {
			s.row(4, back)
			want = withRow(want, 4, back)
		}
		s.row(4, 32768)
		want = withRow(want, 4, 32768)
		s.end()
	})
	checkUnpack(t, "each distance", b, want)
}

// TestLength258Twice: the code of 227 has room for 258, too.
func TestLength258Twice(t *testing.T) {
	b := built(func(s *stream) {
		s.head(true, 1)
		s.lits("a")
		s.sign(284)
		s.low(31, 5)
		s.high(0, 5)
		s.end()
	})
	checkUnpack(t, "284", b, bytes.Repeat([]byte("a"), 259))
}

// P5.2: codes that a block tells

func TestToldCodes(t *testing.T) {
	for name, r := range map[string]struct {
		build func(s *stream)
		want  string
	}{
		"just one literal's code, that of 256": {func(s *stream) {
			s.told(true, 257, 1, many(138), many(118), length(1), length(0))
			s.text("0")
		}, ""},
		"no distance's code, none needed": {func(s *stream) {
			s.told(true, 257, 1, many(97), length(1), many(138), few(10), few(10), length(1), length(0))
			s.text("001")
		}, "aa"},
		"just one distance's code, of 1": {func(s *stream) {
			s.told(true, 258, 2, append(abLits(), length(0), length(1))...)
			s.text(codeA + codeB + codeRow3 + "0" + codeEnd)
		}, "ababa"},
		"what is said again goes on in the distances": {func(s *stream) {
			s.told(true, 258, 3, many(97), length(2), length(2), many(138), many(19), length(2), again(3), length(1))
			s.text(codeA + codeB + codeRow3 + "10" + codeEnd)
		}, "abbbb"},
		"said again at the first distance": {func(s *stream) {
			s.told(true, 258, 4, append(abLits(), again(4))...)
			s.text(codeA + codeB + codeRow3 + "01" + codeEnd)
		}, "ababa"},
		"noughts go on in the distances": {func(s *stream) {
			s.told(true, 260, 12, append(abLits(), many(13), length(1))...)
			s.text(codeA + codeEnd)
		}, "a"},
		"a nought is said again": {func(s *stream) {
			s.told(true, 258, 1, append([]said{length(0), again(3), again(6), again(5), again(3), many(79)}, append(abLits()[1:], length(1))...)...)
			s.text(codeB + codeEnd)
		}, "b"},
		"286 literals and 30 distances": {func(s *stream) {
			s.told(true, 286, 30, append(abLits(), many(28), length(1), few(9), many(20))...)
			s.text(codeA + codeRow3 + codeDist + codeEnd)
		}, "aaaa"},
		"the last length and the last distance": {func(s *stream) {
			s.stored(false, bytes.Repeat([]byte("z"), 24577))
			s.told(true, 286, 30, many(138), many(118), length(1), many(28), length(1), many(29), length(1))
			s.text("1")
			s.text("0")
			s.low(0, 13)
			s.text("0")
		}, strings.Repeat("z", 24577+258)},
	} {
		checkUnpack(t, name, built(r.build), []byte(r.want))
		for by := range 8 {
			checkUnpack(t, name, shifted(by, r.build), []byte(strings.Repeat("\xf0", by)+r.want))
		}
	}
}

// TestFewFirstLengths: of the code by which lengths are told just the lengths of 16, 17, 18, 0 and 8 are there.
func TestFewFirstLengths(t *testing.T) {
	head := func(s *stream, count int) {
		s.head(true, 2)
		s.low(0, 10)
		s.low(count-4, 4)
		for _, digits := range []int{2, 0, 0, 1, 2, 0, 0, 0, 0, 0, 0, 0, 0, 0, 0, 0, 0, 0, 0}[:count] {
			s.low(digits, 3)
		}
	}
	for _, count := range []int{5, 6, 18, 19} {
		checkUnpack(t, strconv.Itoa(count), built(func(s *stream) {
			head(s, count)
			s.text("0" + "10") // nothing of 0, 8 digits of 1, and of the other 255, up to the end
			for range 42 {
				s.text("11" + "11")
			}
			s.text("11" + "00" + "0")
			s.high(0, 8)
			s.high(254, 8)
			s.high(255, 8)
		}), []byte{1, 255})
	}
	checkRefused(t, "4", built(func(s *stream) {
		head(s, 4)
		s.text(strings.Repeat("0", 300))
	}), api.ErrForm)
}

// P5.2: wrong inputs

func TestDigitsEnd(t *testing.T) {
	for name, r := range right() {
		for by := range 8 {
			whole := shifted(by, r.build)
			for cut := range whole {
				checkRefused(t, name+" cut behind "+strconv.Itoa(cut), whole[:cut], api.ErrForm)
			}
		}
	}
}

func TestKind3(t *testing.T) {
	for by := range 8 {
		for _, last := range []bool{false, true} {
			checkRefused(t, "kind 3", shifted(by, func(s *stream) { s.head(last, 3) }), api.ErrForm)
			checkRefused(t, "kind 3, more behind it", shifted(by, func(s *stream) { s.head(last, 3); s.stored(true, nil) }), api.ErrForm)
		}
	}
}

func TestTurnedLength(t *testing.T) {
	whole := []byte{1, 3, 0, 0xfc, 0xff, 'a', 'b', 'c'}
	checkUnpack(t, "as it is", whole, []byte("abc"))
	for digit := 8; digit < 40; digit++ {
		b := bytes.Clone(whole)
		b[digit/8] ^= 1 << (digit % 8)
		checkRefused(t, "digit "+strconv.Itoa(digit), append(b, make([]byte, 1<<16)...), api.ErrForm)
	}
	checkRefused(t, "not turned", []byte{1, 3, 0, 3, 0, 'a', 'b', 'c'}, api.ErrForm)
	checkRefused(t, "noughts", []byte{1, 0, 0, 0, 0}, api.ErrForm)
}

func TestCodesThatAreRefused(t *testing.T) {
	for name, build := range map[string]func(s *stream){
		"too many literals": func(s *stream) {
			s.told(true, 258, 1, many(97), length(2), length(1), many(138), many(19), length(2), length(2), length(1))
		},
		"room among the literals": func(s *stream) {
			s.told(true, 258, 1, many(97), length(2), length(0), many(138), many(19), length(2), length(2), length(1))
		},
		"one literal, of two digits": func(s *stream) {
			s.told(true, 257, 1, many(138), many(118), length(2), length(0))
		},
		"too many distances":          func(s *stream) { s.told(true, 258, 3, append(abLits(), length(1), length(1), length(1))...) },
		"room among the distances":    func(s *stream) { s.told(true, 258, 2, append(abLits(), length(1), length(2))...) },
		"one distance, of two digits": func(s *stream) { s.told(true, 258, 1, append(abLits(), length(2))...) },
	} {
		// whatever the codes come to: a block may end soon, or never
		for _, digits := range []string{"0", "1", "10", "01", "110"} {
			b := built(func(s *stream) { build(s); s.text(digits) })
			checkRefused(t, name, b, api.ErrForm)
			checkRefused(t, name+", more behind", append(b, make([]byte, 1<<15)...), api.ErrForm)
			checkRefused(t, name+", ones behind", append(b, bytes.Repeat([]byte{255}, 1<<15)...), api.ErrForm)
		}
	}
}

// TestFirstCodeThatIsRefused: the code by which lengths are told: each one here has 0 for the length of 0 and 1 for 18.
func TestFirstCodeThatIsRefused(t *testing.T) {
	head := func(s *stream, sixteen, eighteen, nought, one int) {
		s.head(true, 2)
		s.low(0, 10)
		s.low(18-4, 4)
		for _, digits := range []int{sixteen, 0, eighteen, nought, 0, 0, 0, 0, 0, 0, 0, 0, 0, 0, 0, 0, 0, one} {
			s.low(digits, 3)
		}
	}
	// 256 noughts, a code of one digit, no distance, the end
	rest := func(s *stream) {
		s.text("11")
		s.low(127, 7)
		s.text("11")
		s.low(107, 7)
		s.text("10" + "0" + "0")
	}
	checkUnpack(t, "as it is", built(func(s *stream) { head(s, 0, 2, 1, 2); rest(s) }), nil)
	for _, r := range [][4]int{{1, 2, 1, 2}, {7, 2, 1, 2}, {0, 2, 1, 1}, {0, 2, 2, 2}, {0, 3, 1, 2}, {0, 2, 1, 3}, {0, 0, 1, 2}, {0, 2, 0, 2}, {0, 0, 0, 2}, {0, 0, 0, 0}} {
		checkRefused(t, "first code", built(func(s *stream) { head(s, r[0], r[1], r[2], r[3]); rest(s) }), api.ErrForm)
	}
}

// TestNoCodeOf256: who takes such codes reads literals till they are too many, and answers ErrLimit.
func TestNoCodeOf256(t *testing.T) {
	for name, l := range map[string][]said{
		"two literals":     {many(97), length(1), length(1), many(138), many(20), length(0)},
		"just one":         {many(97), length(1), many(138), many(21), length(0)},
		"one is a row":     {many(97), length(1), many(138), many(21), length(1), length(1)},
		"none at all":      {many(138), many(120)},
		"256 is a nought ": {length(1), length(1), many(138), many(117), length(0)},
	} {
		lits := 257
		if name == "one is a row" {
			lits = 258
		}
		b := built(func(s *stream) { s.told(true, lits, 1, l...) })
		checkRefused(t, name, append(b, make([]byte, 1<<14)...), api.ErrForm)
	}
}

func TestSaidAgain(t *testing.T) {
	whole := func(first said) func(s *stream) {
		return func(s *stream) {
			s.told(true, 258, 1, append([]said{first, many(94)}, append(abLits()[1:], length(1))...)...)
			s.text(codeA + codeEnd)
		}
	}
	checkUnpack(t, "three noughts", built(whole(few(3))), []byte("a"))
	checkRefused(t, "what was not there", built(whole(again(3))), api.ErrForm)
	for name, r := range map[string]struct {
		last said
		most int
	}{
		"few noughts":       {few(3), 3},
		"more noughts":      {few(10), 10},
		"many noughts":      {many(11), 11},
		"29 noughts":        {many(29), 29},
		"the most noughts":  {many(138), 138},
		"the one ahead":     {again(3), 3},
		"it more than once": {again(6), 6},
	} {
		for dists := 1; dists <= 30; dists++ {
			b := built(func(s *stream) {
				s.told(true, 258, 1+dists, append(abLits(), length(0), r.last)...)
				for told := r.most; told < dists; told++ {
					s.high(0, 4)
				}
				s.text(codeA + codeEnd)
			})
			if r.most <= dists && dists < 30 {
				checkUnpack(t, name, b, []byte("a"))
			} else {
				checkRefused(t, name+" for "+strconv.Itoa(dists), b, api.ErrForm)
			}
		}
	}
}

func TestTooManyLengths(t *testing.T) {
	for lits := 258; lits <= 288; lits++ {
		for dists := 1; dists <= 32; dists++ {
			l := abLits()
			for range lits - 258 {
				l = append(l, length(0))
			}
			l = append(l, length(1))
			for range dists - 1 {
				l = append(l, length(0))
			}
			b := built(func(s *stream) { s.told(true, lits, dists, l...); s.text(codeA + codeRow3 + codeDist + codeEnd) })
			if lits <= 286 && dists <= 30 {
				checkUnpack(t, "lengths", b, []byte("aaaa"))
			} else {
				checkRefused(t, strconv.Itoa(lits)+" and "+strconv.Itoa(dists), b, api.ErrForm)
			}
		}
	}
}

func TestSignsThatMayNotBe(t *testing.T) {
	for sign := 257; sign <= 287; sign++ {
		b := built(func(s *stream) {
			s.head(true, 1)
			s.lits("a")
			s.sign(sign)
			s.text("00000000")
			s.high(0, 5)
			s.end()
		})
		if sign > 285 {
			checkRefused(t, "sign "+strconv.Itoa(sign), b, api.ErrForm)
			checkRefused(t, "sign at the end", built(func(s *stream) { s.head(true, 1); s.lits("a"); s.sign(sign); s.high(0, 5); s.end() }), api.ErrForm)
		}
	}
	ahead := byChance(22, 32768)
	for sign := range 32 {
		for count := range 14 {
			b := built(func(s *stream) {
				s.stored(false, ahead)
				s.head(true, 1)
				s.sign(257)
				s.high(sign, 5)
				s.low(0, count)
				s.end()
			})
			if sign > 29 {
				checkRefused(t, "distance "+strconv.Itoa(sign), b, api.ErrForm)
			} else if count == max(0, sign/2-1) {
				if _, e := Unpack(b); e != api.OK {
					t.Errorf("distance %d: %d", sign, e)
				}
			}
		}
	}
}

func TestNoneWhereOneIsNeeded(t *testing.T) {
	for _, behind := range []string{"0", "1", "00000", "11111"} {
		checkRefused(t, "no distance has a code", built(func(s *stream) {
			s.told(true, 258, 1, append(abLits(), length(0))...)
			s.text(codeA + codeRow3 + behind + codeEnd)
		}), api.ErrForm)
	}
	checkRefused(t, "the one distance's code is another one", built(func(s *stream) {
		s.ab(true)
		s.text(codeA + codeRow3 + "1" + codeEnd)
	}), api.ErrForm)
	checkRefused(t, "the one literal's code is another one", built(func(s *stream) {
		s.told(true, 257, 1, many(138), many(118), length(1), length(0))
		s.text("1" + "0")
	}), api.ErrForm)
}

func TestFurtherBackThanThereAreBytes(t *testing.T) {
	for ahead := range 40 {
		for back := 1; back <= 41; back++ {
			b := built(func(s *stream) {
				s.head(false, 1)
				s.lits(strings.Repeat("x", ahead/2))
				s.end()
				s.head(true, 1)
				s.lits(strings.Repeat("x", ahead-ahead/2))
				s.row(3, back)
				s.end()
			})
			if back <= ahead {
				checkUnpack(t, "back", b, bytes.Repeat([]byte("x"), ahead+3))
			} else {
				checkRefused(t, strconv.Itoa(back)+" behind "+strconv.Itoa(ahead), b, api.ErrForm)
			}
		}
	}
	for _, ahead := range []int{32767, 32768} {
		b := built(func(s *stream) { s.stored(false, make([]byte, ahead)); s.head(true, 1); s.row(3, 32768); s.end() })
		if ahead == 32768 {
			checkUnpack(t, "the furthest", b, make([]byte, ahead+3))
		} else {
			checkRefused(t, "further than the furthest", b, api.ErrForm)
		}
	}
	checkRefused(t, "a told block", built(func(s *stream) { s.ab(true); s.text(codeRow3 + codeDist + codeEnd) }), api.ErrForm)
}

func TestBehindTheLastBlock(t *testing.T) {
	for name, r := range right() {
		for by := range 8 {
			var s stream
			s.head(false, 1)
			s.lits(strings.Repeat("\xf0", by))
			s.end()
			r.build(&s)
			whole := s.bytes()
			for digit := len(s); digit < 8*len(whole); digit++ {
				b := bytes.Clone(whole)
				b[digit/8] |= 1 << (digit % 8)
				checkRefused(t, name+", a digit", b, api.ErrForm)
			}
			for _, more := range [][]byte{{0}, {255}, {0, 0}, {3, 0}, {1, 0, 0, 255, 255}} {
				checkRefused(t, name+", a byte", slices.Concat(whole, more), api.ErrForm)
			}
		}
	}
}

func TestNothingAtAll(t *testing.T) {
	checkRefused(t, "nil", nil, api.ErrForm)
	checkRefused(t, "empty", []byte{}, api.ErrForm)
}

// P5.2: the limit, and which error is met first

// full is so many bytes, in stored blocks that are not the last ones.
func (s *stream) full(count int) {
	for count > 0 {
		piece := min(65535, count)
		s.stored(false, make([]byte, piece))
		count -= piece
	}
}

func TestAsManyAsMaxOut(t *testing.T) {
	for name, r := range map[string]struct {
		ahead, adds int
		build       func(s *stream)
	}{
		"stored":      {api.MaxOut - 2, 2, func(s *stream) { s.stored(true, []byte{0, 0}) }},
		"nothing":     {api.MaxOut, 0, func(s *stream) { s.stored(true, nil) }},
		"no literal":  {api.MaxOut, 0, func(s *stream) { s.head(true, 1); s.end() }},
		"literal":     {api.MaxOut - 1, 1, func(s *stream) { s.head(true, 1); s.lits("\x00"); s.end() }},
		"row":         {api.MaxOut - 3, 3, func(s *stream) { s.head(true, 1); s.row(3, 1); s.end() }},
		"longest row": {api.MaxOut - 258, 258, func(s *stream) { s.head(true, 1); s.row(258, 9); s.end() }},
		"rows":        {api.MaxOut - 516, 516, func(s *stream) { s.head(true, 1); s.row(258, 9); s.row(258, 9); s.end() }},
		"told row":    {api.MaxOut - 3, 3, func(s *stream) { s.ab(true); s.text(codeRow3 + codeDist + codeEnd) }},
	} {
		checkUnpack(t, name, built(func(s *stream) { s.full(r.ahead); r.build(s) }), make([]byte, api.MaxOut))
		checkUnpack(t, name, built(func(s *stream) { s.full(r.ahead - 1); r.build(s) }), make([]byte, api.MaxOut-1))
		for more := 1; more <= r.adds; more += max(1, r.adds-1) {
			checkRefused(t, name, built(func(s *stream) { s.full(r.ahead + more); r.build(s) }), api.ErrLimit)
		}
	}
	checkRefused(t, "two whole stored blocks", built(func(s *stream) { s.full(2 * 65535); s.stored(true, nil) }), api.ErrLimit)
}

// TestOnePieceFormAheadOfLimit: one piece too many, cut at each place: it is ErrForm until all of the piece is there.
func TestOnePieceFormAheadOfLimit(t *testing.T) {
	for name, piece := range map[string]func(s *stream){
		"literal":                func(s *stream) { s.lits("\xff") },
		"row":                    func(s *stream) { s.row(3, 1) },
		"row with digits behind": func(s *stream) { s.row(130, 20000) },
		"longest row":            func(s *stream) { s.row(258, 32768) },
	} {
		for by := range 8 {
			var s stream
			s.full(api.MaxOut - by)
			s.head(true, 1)
			s.lits(strings.Repeat("\xf0", by))
			from := len(s) / 8
			piece(&s)
			until := len(s)
			s.end()
			s.stored(true, nil)
			whole := s.bytes()
			for cut := from; cut <= len(whole); cut++ {
				want := api.ErrForm
				if 8*cut >= until {
					want = api.ErrLimit
				}
				checkRefused(t, name+" cut behind "+strconv.Itoa(8*cut-until), whole[:cut], want)
			}
		}
	}
	for _, count := range []int{1, 2, 300} {
		for ahead := api.MaxOut - count + 1; ahead <= api.MaxOut; ahead += max(1, count-1) {
			var s stream
			s.full(ahead)
			from := len(s) / 8
			s.stored(true, make([]byte, count))
			whole := s.bytes()
			for cut := from; cut < len(whole); cut += 1 + count/100 {
				checkRefused(t, "stored", whole[:cut], api.ErrForm)
			}
			checkRefused(t, "stored", whole, api.ErrLimit)
			checkRefused(t, "stored, a byte behind it", append(whole, 0), api.ErrLimit)
			whole[from+3] ^= 1
			checkRefused(t, "stored, the turned length", whole, api.ErrForm)
		}
	}
}

func TestTheErrorThatIsMetFirst(t *testing.T) {
	for name, build := range map[string]func(s *stream){
		"kind 3":         func(s *stream) { s.head(true, 3) },
		"a byte behind":  func(s *stream) { s.stored(true, nil); s.low(0, 8) },
		"a digit behind": func(s *stream) { s.head(true, 1); s.end(); s.low(1, 1) },
		"sign 286":       func(s *stream) { s.head(true, 1); s.sign(286); s.high(0, 5); s.end() },
		"distance 30":    func(s *stream) { s.head(true, 1); s.sign(257); s.high(30, 5); s.end() },
		"distance 31":    func(s *stream) { s.head(true, 1); s.sign(285); s.high(31, 5); s.end() },
		"no distance has a code": func(s *stream) {
			s.told(true, 258, 1, append(abLits(), length(0))...)
			s.text(codeRow3 + "00" + codeEnd)
		},
		"a distance has no code":  func(s *stream) { s.ab(true); s.text(codeRow3 + "1" + codeEnd) },
		"codes that huff refuses": func(s *stream) { s.told(true, 258, 1, append(abLits(), length(2))...); s.text(codeA) },
		"287 lengths":             func(s *stream) { s.told(true, 287, 1, append(abLits(), many(29), length(1))...); s.text(codeA) },
	} {
		// all that may be is there, and the limit was not passed
		checkRefused(t, name, built(func(s *stream) { s.full(api.MaxOut); build(s) }), api.ErrForm)
		// the limit was passed ahead of it
		checkRefused(t, name+" behind a stored block", built(func(s *stream) { s.full(api.MaxOut + 1); build(s) }), api.ErrLimit)
		checkRefused(t, name+" behind a literal", built(func(s *stream) { s.full(api.MaxOut); s.head(false, 1); s.lits("a"); s.end(); build(s) }), api.ErrLimit)
		checkRefused(t, name+" behind a row", built(func(s *stream) { s.full(api.MaxOut - 2); s.head(false, 1); s.row(3, 2); s.end(); build(s) }), api.ErrLimit)
		// it stands ahead of what passes the limit
		checkRefused(t, name+" ahead of it", built(func(s *stream) { build(s); s.full(api.MaxOut + 1); s.stored(true, nil) }), api.ErrForm)
	}
	for name, behind := range map[string]func(s *stream){
		"sign 286":    func(s *stream) { s.sign(286) },
		"distance 30": func(s *stream) { s.sign(257); s.high(30, 5) },
		"no end":      func(s *stream) {}, // nor any block behind
	} {
		checkRefused(t, name+" in the same block", built(func(s *stream) { s.full(api.MaxOut); s.head(true, 1); s.lits("a"); behind(s) }), api.ErrLimit)
	}
}

// P5.2: against the library

// stdPacked is what the library makes of b, at each of its levels.
func stdPacked(t *testing.T, b []byte) [][]byte {
	t.Helper()
	var l [][]byte
	for level := std.HuffmanOnly; level <= std.BestCompression; level++ {
		var out bytes.Buffer
		w, err := std.NewWriter(&out, level)
		if err != nil {
			t.Fatal(err)
		}
		// several blocks, one behind the other
		for _, piece := range [][]byte{b[:len(b)/3], b[len(b)/3:]} {
			if _, err := w.Write(piece); err != nil {
				t.Fatal(err)
			}
			if err := w.Flush(); err != nil {
				t.Fatal(err)
			}
		}
		if err := w.Close(); err != nil {
			t.Fatal(err)
		}
		l = append(l, out.Bytes())
	}
	return l
}

func TestUnpackOfWhatTheLibraryPacks(t *testing.T) {
	for name, b := range map[string][]byte{
		"nothing":   nil,
		"one byte":  {1},
		"hello":     []byte("hello, hello, hello"),
		"periods":   bytes.Repeat([]byte("the same again. "), 900),
		"far back":  slices.Concat(byChance(30, 900), make([]byte, 31000), byChance(30, 900)),
		"few sorts": fewSorts(31, 40000, 5),
		"chance":    byChance(32, 20000),
		"MaxOut":    fewSorts(33, api.MaxOut, 17),
	} {
		for i, packed := range stdPacked(t, b) {
			checkUnpack(t, name+", level "+strconv.Itoa(i-2), packed, b)
		}
	}
	for _, packed := range stdPacked(t, fewSorts(34, api.MaxOut+1, 17)) {
		checkRefused(t, "one more than MaxOut", packed, api.ErrLimit)
	}
}

// cleared is b with noughts for the highest digits of its last byte.
func cleared(b []byte, count int) []byte {
	b = bytes.Clone(b)
	b[len(b)-1] &= 255 >> count
	return b
}

// TestSpoilt turns some digits of what may be unpacked: the library, which does not look at what fills the last byte, and
// Unpack are of one mind.
func TestSpoilt(t *testing.T) {
	chance := rand.New(rand.NewSource(35))
	var from [][]byte
	for _, b := range [][]byte{[]byte("hello, hello, hello"), fewSorts(36, 300, 4), fewSorts(37, 200, 60), byChance(38, 40)} {
		from = append(from, stdPacked(t, b)...)
		from = append(from, Fixed(b), Stored(b))
	}
	for _, r := range right() {
		from = append(from, built(r.build))
	}
	agreed := 0
	for range 40000 {
		b := bytes.Clone(from[chance.Intn(len(from))])
		for range 1 + chance.Intn(3) {
			digit := chance.Intn(8 * min(len(b), 1+chance.Intn(len(b))))
			b[digit/8] ^= 1 << (digit % 8)
		}
		got, e := Unpack(b)
		want, left, err := stdUnpack(b)
		if len(want) > api.MaxOut {
			continue
		}
		whole := err == nil && left == 0
		for count := 1; count < 8 && whole && e != api.OK; count++ {
			got, e = Unpack(cleared(b, count))
		}
		if (e == api.OK) != whole || e == api.OK && !bytes.Equal(got, want) || e != api.OK && (e != api.ErrForm || len(got) != 0) {
			t.Fatalf("%x: %q, %d; by the library %q, %v, left %d", b, got, e, want, err, left)
		}
		if whole {
			agreed++
		}
	}
	if agreed < 1000 {
		t.Errorf("only %d of them may be unpacked", agreed)
	}
}

// TestAnyBytes: whatever they are, it ends, and tells one of three.
func TestAnyBytes(t *testing.T) {
	chance := rand.New(rand.NewSource(39))
	for range 30000 {
		b := make([]byte, chance.Intn(40))
		chance.Read(b)
		if got, e := Unpack(b); e != api.OK && (e != api.ErrForm || len(got) != 0) {
			t.Fatalf("%x: %d bytes, %d", b, len(got), e)
		}
	}
}
