package flate

import (
	"bytes"
	"testing"

	"florilegium/api"
	"florilegium/lz"
)

// stream is digits, a byte '0' or '1' each: blocks are written here by RFC 1951's own words, without package bits.
type stream []byte

func (s *stream) low(n, count int) {
	for place := range count {
		*s = append(*s, byte('0'+n>>place&1))
	}
}

func (s *stream) high(n, count int) {
	for place := count - 1; place >= 0; place-- {
		*s = append(*s, byte('0'+n>>place&1))
	}
}

func (s *stream) text(digits string) {
	*s = append(*s, digits...)
}

// align fills up to a whole byte with one digit: of a stored block any will do.
func (s *stream) align(digit byte) {
	for len(*s)%8 > 0 {
		*s = append(*s, digit)
	}
}

func (s stream) bytes() []byte {
	b := make([]byte, (len(s)+7)/8)
	for i, digit := range s {
		if digit == '1' {
			b[i/8] |= 1 << (i % 8)
		}
	}
	return b
}

func (s *stream) head(last bool, kind int) {
	n := 0
	if last {
		n = 1
	}
	s.low(n, 1)
	s.low(kind, 2)
}

func (s *stream) stored(last bool, b []byte) {
	s.head(last, 0)
	s.align('1')
	s.low(len(b), 16)
	s.low(65535-len(b), 16)
	for _, x := range b {
		s.low(int(x), 8)
	}
}

// sign is one of the fixed codes.
func (s *stream) sign(n int) {
	switch {
	case n < 144:
		s.high(0x30+n, 8)
	case n < 256:
		s.high(0x190+n-144, 9)
	case n < 280:
		s.high(n-256, 7)
	default:
		s.high(0xc0+n-280, 8)
	}
}

func (s *stream) lits(text string) {
	for i := range len(text) {
		s.sign(int(text[i]))
	}
}

func (s *stream) end() {
	s.sign(256)
}

func (s *stream) row(length, distance int) {
	sign, extra, count := lz.LengthCode(length)
	s.sign(sign)
	s.low(extra, count)
	sign, extra, count = lz.DistanceCode(distance)
	s.high(sign, 5)
	s.low(extra, count)
}

// said is one sign of the code by which lengths are told, and the digits behind it.
type said struct{ sign, extra, count int }

func length(n int) said    { return said{n, 0, 0} }
func again(times int) said { return said{16, times - 3, 2} }
func few(nones int) said   { return said{17, nones - 3, 3} }
func many(nones int) said  { return said{18, nones - 11, 7} }

// told begins a block of the kind 2. The code by which its lengths are told has 4 digits of the signs 0 to 12, 5 of those
// from 13 to 18.
func (s *stream) told(last bool, lits, dists int, l ...said) {
	s.head(last, 2)
	s.low(lits-257, 5)
	s.low(dists-1, 5)
	s.low(19-4, 4)
	for _, sign := range []int{16, 17, 18, 0, 8, 7, 9, 6, 10, 5, 11, 4, 12, 3, 13, 2, 14, 1, 15} {
		s.low(4+sign/13, 3)
	}
	for _, x := range l {
		if x.sign < 13 {
			s.high(x.sign, 4)
		} else {
			s.high(26+x.sign-13, 5)
		}
		s.low(x.extra, x.count)
	}
}

// Of the lengths that ab tells: the literals a and b have the codes 00 and 01, the end 10, a row of three 11, and the
// distance 1 has 0.
const (
	codeA    = "00"
	codeB    = "01"
	codeEnd  = "10"
	codeRow3 = "11"
	codeDist = "0"
)

// abLits is 258 lengths.
func abLits() []said {
	return []said{many(97), length(2), length(2), many(138), many(19), length(2), length(2)}
}

func (s *stream) ab(last bool) {
	s.told(last, 258, 1, append(abLits(), length(1))...)
}

// built is the bytes that build writes.
func built(build func(s *stream)) []byte {
	var s stream
	build(&s)
	return s.bytes()
}

func checkUnpack(t *testing.T, name string, b, want []byte) {
	t.Helper()
	if got, e := Unpack(b); e != api.OK || !bytes.Equal(got, want) {
		t.Errorf("%s: %d bytes (%.40q), %d; not %d bytes (%.40q)", name, len(got), got, e, len(want), want)
	}
}

func checkRefused(t *testing.T, name string, b []byte, want api.Errno) {
	t.Helper()
	if got, e := Unpack(b); e != want || len(got) != 0 {
		t.Errorf("%s: %d bytes (%.40q), %d; not %d", name, len(got), got, e, want)
	}
}
