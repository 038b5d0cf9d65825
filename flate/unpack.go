package flate

import (
	"florilegium/api"
	"florilegium/bits"
	"florilegium/huff"
	"florilegium/lz"
)

const (
	minLits  = 257 // lengths that a block tells at the least, and at the most
	maxLits  = 286
	minDists = 1
	maxDists = 30
	minFirst = 4
	signs    = 19 // of the code by which the lengths are told

	sayAgain  = 16 // the signs from here on stand for several lengths: the one ahead of them, again
	fewNones  = 17
	manyNones = 18
)

// order is how RFC 1951, 3.2.7, lists the lengths of the code by which the lengths are told.
var order = [signs]int{16, 17, 18, 0, 8, 7, 9, 6, 10, 5, 11, 4, 12, 3, 13, 2, 14, 1, 15}

// unpacker goes through blocks from the front on. What is wrong is told by a panic with its number, wherever it is met,
// so that nothing on the way up has to hand it on: caught ends it.
type unpacker struct {
	in    *bits.Reader
	out   []byte
	fixed codes // made once, however many blocks ask for them
}

// Unpack is what the blocks say.
func Unpack(b []byte) ([]byte, api.Errno) {
	u := &unpacker{in: bits.NewReader(b), fixed: fixedCodes()}
	if e := caught(u.blocks); e != api.OK {
		return nil, e
	}
	return u.out, api.OK
}

// caught is the number with which work panicked; OK if it came to its end. Another panic would be a fault of this
// package: it is not hidden.
func caught(work func()) (e api.Errno) {
	defer func() {
		switch met := recover().(type) {
		case nil:
		case api.Errno:
			e = met
		default:
			panic(met)
		}
	}()
	work()
	return api.OK
}

// need panics with ErrForm unless what the form asks for holds.
func need(holds bool) {
	if !holds {
		panic(api.ErrForm)
	}
}

func (u *unpacker) blocks() {
	for last := false; !last; {
		last = u.digits(1) == 1
		u.block(u.digits(2))
	}
	u.nothingBehind()
}

func (u *unpacker) block(kind int) {
	switch kind {
	case kindStored:
		u.stored()
	case kindFixed:
		u.coded(u.fixed)
	case kindTold:
		u.coded(u.told())
	default:
		panic(api.ErrForm)
	}
}

// nothingBehind: noughts may fill the last byte; a whole byte may not follow.
func (u *unpacker) nothingBehind() {
	rest := u.in.Left()
	need(rest < perByte && u.digits(rest) == 0)
}

func (u *unpacker) digits(count int) int {
	n := u.in.Get(count)
	need(!u.in.Bad())
	return n
}

func (u *unpacker) sign(t *huff.Table) int {
	sign, ok := t.Get(u.in)
	need(ok)
	return sign
}

// number is the least one of a code, and what the digits behind it add.
func (u *unpacker) number(base, count int, ok bool) int {
	need(ok)
	return base + u.digits(count)
}

// room is asked for once all of a piece is known to be of its form: of one piece ErrForm is ahead of ErrLimit.
func (u *unpacker) room(count int) {
	if len(u.out)+count > api.MaxOut {
		panic(api.ErrLimit)
	}
}

func (u *unpacker) stored() {
	u.in.Align()
	count := u.digits(16)
	turned := u.digits(16)
	need(count^turnedMask == turned)
	need(count*perByte <= u.in.Left())
	u.room(count)
	for range count {
		u.out = append(u.out, byte(u.digits(perByte)))
	}
}

func (u *unpacker) coded(c codes) {
	for {
		sign := u.sign(c.lits)
		switch {
		case sign < endSign:
			u.room(1)
			u.out = append(u.out, byte(sign))
		case sign == endSign:
			return
		default:
			u.row(sign, c.dists)
		}
	}
}

func (u *unpacker) row(sign int, dists *huff.Table) {
	length := u.number(lz.LengthOf(sign))
	distance := u.number(lz.DistanceOf(u.sign(dists)))
	need(distance <= len(u.out))
	u.room(length)
	// byte by byte: the row may run into itself
	for range length {
		u.out = append(u.out, u.out[len(u.out)-distance])
	}
}

// told is the codes whose lengths stand at the beginning of a block, themselves in a code.
func (u *unpacker) told() codes {
	lits := minLits + u.digits(5)
	dists := minDists + u.digits(5)
	first := minFirst + u.digits(4)
	need(lits <= maxLits && dists <= maxDists)
	lengths := u.lengths(u.first(first), lits+dists)
	need(lengths[endSign] > 0)
	c, e := newCodes(lengths[:lits], lengths[lits:])
	if e != api.OK {
		panic(e)
	}
	return c
}

// first is the code by which the lengths are told.
func (u *unpacker) first(count int) *huff.Table {
	lengths := make([]int, signs)
	for place := range count {
		lengths[order[place]] = u.digits(3)
	}
	t, e := huff.New(lengths)
	if e != api.OK {
		panic(e)
	}
	return t
}

// lengths is those of the literals and of the distances in one list: what is said again may reach from the ones into
// the others.
func (u *unpacker) lengths(t *huff.Table, count int) []int {
	var l []int
	for len(l) < count {
		length, times := u.several(u.sign(t), l)
		need(times <= count-len(l))
		for range times {
			l = append(l, length)
		}
	}
	return l
}

// several is the length for which a sign stands behind those told so far, and how many times.
func (u *unpacker) several(sign int, ahead []int) (length, times int) {
	switch sign {
	case sayAgain:
		need(len(ahead) > 0)
		return ahead[len(ahead)-1], 3 + u.digits(2)
	case fewNones:
		return 0, 3 + u.digits(3)
	case manyNones:
		return 0, 11 + u.digits(7)
	}
	return sign, 1
}
