package bits

import (
	"bytes"
	"math"
	"math/rand"
	"testing"
)

// wrongCounts may be neither put nor got.
func wrongCounts() []int {
	return []int{-1, 17, 18, 32, 64, 65, -16, math.MaxInt, math.MinInt}
}

// written is the bytes of what calls write.
func written(calls func(w *Writer)) []byte {
	w := NewWriter()
	calls(w)
	return w.Bytes()
}

// packed is the bytes of digits, reckoned place by place.
func packed(digits []int) []byte {
	b := make([]byte, (len(digits)+7)/8)
	for i, digit := range digits {
		if digit == 1 {
			b[i/8] += 1 << (i % 8)
		}
	}
	return b
}

// lowest is the lowest count digits of n, the lowest first, reckoned by dividing.
func lowest(n, count int) []int {
	var digits []int
	for range count {
		digit := ((n % 2) + 2) % 2
		digits = append(digits, digit)
		n = (n - digit) / 2
	}
	return digits
}

func turned(digits []int) []int {
	var l []int
	for i := len(digits) - 1; i >= 0; i-- {
		l = append(l, digits[i])
	}
	return l
}

// P2.1

func TestPutAndCode(t *testing.T) {
	for _, r := range []struct {
		what  string
		calls func(w *Writer)
		want  []byte
	}{
		{"nothing", func(w *Writer) {}, nil},
		{"the example", func(w *Writer) { w.Put(5, 3); w.Put(1, 1) }, []byte{13}},
		{"put is lowest first", func(w *Writer) { w.Put(1, 4) }, []byte{1}},
		{"code is highest first", func(w *Writer) { w.Code(1, 4) }, []byte{8}},
		{"put 110", func(w *Writer) { w.Put(6, 3) }, []byte{6}},
		{"code 110", func(w *Writer) { w.Code(6, 3) }, []byte{3}},
		{"only the lowest are put", func(w *Writer) { w.Put(0xf5, 4); w.Put(0, 4) }, []byte{5}},
		{"only the lowest are coded", func(w *Writer) { w.Code(0xf1, 4); w.Put(0, 4) }, []byte{8}},
		{"a full byte", func(w *Writer) { w.Put(0xa7, 8) }, []byte{0xa7}},
		{"one behind a full byte", func(w *Writer) { w.Put(0xa7, 8); w.Put(1, 1) }, []byte{0xa7, 1}},
		{"across a byte", func(w *Writer) { w.Put(0, 5); w.Put(0x3f, 6) }, []byte{0xe0, 7}},
		{"a nought begins a byte", func(w *Writer) { w.Put(0, 1) }, []byte{0}},
		{"16 put", func(w *Writer) { w.Put(0x1234, 16) }, []byte{0x34, 0x12}},
		{"16 coded", func(w *Writer) { w.Code(0x1234, 16) }, []byte{0x48, 0x2c}},
		{"16 in the midst", func(w *Writer) { w.Put(0, 4); w.Put(0x1234, 16) }, []byte{0x40, 0x23, 1}},
		{"16 of more", func(w *Writer) { w.Put(0x71234, 16) }, []byte{0x34, 0x12}},
		{"0 put", func(w *Writer) { w.Put(-1, 0) }, nil},
		{"0 coded", func(w *Writer) { w.Code(-1, 0) }, nil},
		{"-1 put", func(w *Writer) { w.Put(-1, 3) }, []byte{7}},
		{"-2 put", func(w *Writer) { w.Put(-2, 16) }, []byte{0xfe, 0xff}},
		{"-2 coded", func(w *Writer) { w.Code(-2, 16) }, []byte{0xff, 0x7f}},
		{"-3 coded", func(w *Writer) { w.Code(-3, 3) }, []byte{5}},
		{"-4 coded", func(w *Writer) { w.Code(-4, 3) }, []byte{1}},
		{"the least put", func(w *Writer) { w.Put(math.MinInt, 16) }, []byte{0, 0}},
		{"the least but one coded", func(w *Writer) { w.Code(math.MinInt+1, 16) }, []byte{0, 0x80}},
		{"the greatest put", func(w *Writer) { w.Put(math.MaxInt, 16) }, []byte{0xff, 0xff}},
	} {
		if got := written(r.calls); !bytes.Equal(got, r.want) {
			t.Errorf("%s: %x, not %x", r.what, got, r.want)
		}
	}
}

func TestEveryCountOfPutAndCode(t *testing.T) {
	numbers := []int{0, 1, -1, 2, -2, 0x5a5a, 0xffff, 0x10000, 0x8001, -0x8001, 123456789, -123456789, math.MaxInt, math.MinInt, math.MinInt + 1}
	for _, n := range numbers {
		for count := 0; count <= 16; count++ {
			for ahead := 0; ahead < 9; ahead++ {
				digits := lowest(-1, ahead)
				put := written(func(w *Writer) { w.Put(-1, ahead); w.Put(n, count) })
				if want := packed(append(digits, lowest(n, count)...)); !bytes.Equal(put, want) {
					t.Errorf("Put(%d, %d) behind %d: %x, not %x", n, count, ahead, put, want)
				}
				code := written(func(w *Writer) { w.Put(-1, ahead); w.Code(n, count) })
				if want := packed(append(digits, turned(lowest(n, count))...)); !bytes.Equal(code, want) {
					t.Errorf("Code(%d, %d) behind %d: %x, not %x", n, count, ahead, code, want)
				}
			}
		}
	}
}

func TestWrongCountsWriteNothing(t *testing.T) {
	for _, count := range wrongCounts() {
		for ahead := 0; ahead < 9; ahead++ {
			want := packed(append(lowest(0x155, ahead), 1, 1))
			got := written(func(w *Writer) {
				w.Put(-1, count)
				w.Code(-1, count)
				w.Put(0x155, ahead)
				w.Put(-1, count)
				w.Code(-1, count)
				w.Put(3, 2)
			})
			if !bytes.Equal(got, want) {
				t.Errorf("count %d behind %d: %x, not %x", count, ahead, got, want)
			}
		}
	}
}

func TestWriterAligns(t *testing.T) {
	for _, r := range []struct {
		what  string
		calls func(w *Writer)
		want  []byte
	}{
		{"nothing", func(w *Writer) { w.Align() }, nil},
		{"nothing, then one", func(w *Writer) { w.Align(); w.Put(1, 1) }, []byte{1}},
		{"a begun byte", func(w *Writer) { w.Put(1, 1); w.Align(); w.Put(1, 1) }, []byte{1, 1}},
		{"a begun byte of noughts", func(w *Writer) { w.Put(0, 1); w.Align(); w.Put(1, 1) }, []byte{0, 1}},
		{"seven digits", func(w *Writer) { w.Put(-1, 7); w.Align(); w.Put(1, 1) }, []byte{0x7f, 1}},
		{"a full byte", func(w *Writer) { w.Put(-1, 8); w.Align(); w.Put(1, 1) }, []byte{0xff, 1}},
		{"nine digits", func(w *Writer) { w.Put(-1, 9); w.Align(); w.Put(1, 1) }, []byte{0xff, 1, 1}},
		{"two full bytes", func(w *Writer) { w.Put(-1, 16); w.Align(); w.Put(1, 1) }, []byte{0xff, 0xff, 1}},
		{"twice", func(w *Writer) { w.Put(1, 2); w.Align(); w.Align(); w.Code(1, 2) }, []byte{1, 2}},
	} {
		if got := written(r.calls); !bytes.Equal(got, r.want) {
			t.Errorf("%s: %x, not %x", r.what, got, r.want)
		}
	}
}

func TestBytesIsACopyAndEndsNothing(t *testing.T) {
	w := NewWriter()
	w.Put(5, 3)
	first := w.Bytes()
	if !bytes.Equal(first, []byte{5}) || !bytes.Equal(w.Bytes(), []byte{5}) {
		t.Errorf("%x, then %x", first, w.Bytes())
	}
	w.Put(1, 1)
	if !bytes.Equal(w.Bytes(), []byte{13}) {
		t.Errorf("the begun byte does not go on: %x", w.Bytes())
	}
	if first[0] != 5 {
		t.Errorf("what was handed out changed: %x", first)
	}
	first[0] = 0xff
	second := w.Bytes()
	_ = append(second[:0], 0xff)
	if !bytes.Equal(w.Bytes(), []byte{13}) {
		t.Errorf("the writer shares its memory: %x", w.Bytes())
	}
	for range 20 {
		w.Put(0, 4)
	}
	held := w.Bytes()
	for i := range cap(held) - len(held) {
		held[:cap(held)][len(held)+i] = 0xff
	}
	w.Align()
	w.Put(0, 8)
	if got := w.Bytes(); got[len(got)-1] != 0 {
		t.Errorf("the writer shares what is behind the length: %x", got)
	}
}

func TestWritersGoTheirOwnWays(t *testing.T) {
	a, b := NewWriter(), NewWriter()
	a.Put(1, 1)
	b.Put(2, 2)
	a.Put(1, 1)
	if !bytes.Equal(a.Bytes(), []byte{3}) || !bytes.Equal(b.Bytes(), []byte{2}) {
		t.Errorf("%x and %x", a.Bytes(), b.Bytes())
	}
}

func TestWriterAsAListOfDigits(t *testing.T) {
	chance := rand.New(rand.NewSource(2))
	for range 300 {
		w := NewWriter()
		var digits []int
		for range 60 {
			n, count := int(chance.Uint64()), chance.Intn(21)-2
			fits := 0 <= count && count <= 16
			switch chance.Intn(5) {
			case 0, 1:
				w.Put(n, count)
				if fits {
					digits = append(digits, lowest(n, count)...)
				}
			case 2, 3:
				w.Code(n, count)
				if fits {
					digits = append(digits, turned(lowest(n, count))...)
				}
			case 4:
				w.Align()
				for len(digits)%8 != 0 {
					digits = append(digits, 0)
				}
			}
			if got := w.Bytes(); !bytes.Equal(got, packed(digits)) {
				t.Fatalf("%x, not %x", got, packed(digits))
			}
		}
	}
}

// P2.2

// told holds what a reader tells of itself against what is asked.
func told(t *testing.T, what string, r *Reader, left int, bad bool) {
	t.Helper()
	if r.Left() != left || r.Bad() != bad {
		t.Errorf("%s: %d left, bad %v; not %d, %v", what, r.Left(), r.Bad(), left, bad)
	}
}

// got holds what Get answers against what is asked.
func got(t *testing.T, r *Reader, count, want int) {
	t.Helper()
	if n := r.Get(count); n != want {
		t.Errorf("Get(%d): %#x, not %#x", count, n, want)
	}
}

// bit holds what Bit answers against what is asked.
func bit(t *testing.T, r *Reader, want int) {
	t.Helper()
	if n := r.Bit(); n != want {
		t.Errorf("Bit(): %d, not %d", n, want)
	}
}

func TestGetAndBit(t *testing.T) {
	r := NewReader([]byte{0x6d, 0xff, 0x34, 0x12, 0x80})
	told(t, "new", r, 40, false)
	got(t, r, 3, 5)
	told(t, "three", r, 37, false)
	bit(t, r, 1)
	bit(t, r, 0)
	told(t, "five", r, 35, false)
	got(t, r, 0, 0)
	told(t, "none more", r, 35, false)
	got(t, r, 7, 0x7b) // 011 of the first byte, 1111 of the next
	told(t, "across a byte", r, 28, false)
	got(t, r, 4, 0xf)
	told(t, "a full byte", r, 24, false)
	got(t, r, 16, 0x1234)
	told(t, "sixteen", r, 8, false)
	got(t, r, 8, 0x80)
	told(t, "all", r, 0, false)
}

func TestSixteenInTheMidst(t *testing.T) {
	r := NewReader([]byte{0x40, 0x23, 0xf1})
	got(t, r, 4, 0)
	got(t, r, 16, 0x1234)
	got(t, r, 4, 0xf)
	told(t, "all", r, 0, false)
}

func TestNoDigitsLeft(t *testing.T) {
	for _, b := range [][]byte{nil, {}, {0xff}} {
		r := NewReader(b)
		got(t, r, 8*len(b), 0xff*len(b))
		got(t, r, 0, 0)
		r.Align()
		told(t, "none is asked for", r, 0, false)
		bit(t, r, 0)
		told(t, "one is asked for", r, 0, true)
		got(t, r, 0, 0)
		r.Align()
		told(t, "from then on", r, 0, true)
	}
}

func TestFewerDigitsThanAreAskedFor(t *testing.T) {
	for taken := 0; taken < 16; taken++ {
		for count := 17 - taken; count <= 16; count++ {
			r := NewReader([]byte{0xff, 0xff})
			got(t, r, taken, 1<<taken-1)
			got(t, r, count, 0)
			told(t, "too many", r, 16-taken, true)
		}
		r := NewReader([]byte{0xff, 0xff})
		got(t, r, taken, 1<<taken-1)
		got(t, r, 16-taken, 1<<(16-taken)-1)
		told(t, "just all", r, 0, false)
	}
}

func TestWrongCountsAreBad(t *testing.T) {
	for _, count := range wrongCounts() {
		for _, b := range [][]byte{nil, {0xff}, bytes.Repeat([]byte{0xff}, 20)} {
			r := NewReader(b)
			got(t, r, count, 0)
			told(t, "wrong", r, 8*len(b), true)
		}
	}
}

func TestBadStaysBad(t *testing.T) {
	spoil := []func(r *Reader){
		func(r *Reader) { r.Get(-1) },
		func(r *Reader) { r.Get(17) },
		func(r *Reader) { r.Get(14) },
	}
	for _, f := range spoil {
		r := NewReader([]byte{0xff, 0xff})
		got(t, r, 3, 7)
		f(r)
		told(t, "spoilt", r, 13, true)
		for _, count := range []int{0, 1, 2, 13, 14, 16, 17, -1} {
			got(t, r, count, 0)
			bit(t, r, 0)
			told(t, "nothing is taken", r, 13, true)
		}
		r.Align()
		told(t, "passed over", r, 8, true)
		bit(t, r, 0)
		got(t, r, 8, 0)
		told(t, "still nothing is taken", r, 8, true)
	}
}

func TestReaderAligns(t *testing.T) {
	b := []byte{1, 2, 4}
	for taken := 0; taken <= 16; taken++ {
		r := NewReader(b)
		r.Get(taken)
		whole := (taken + 7) / 8
		r.Align()
		told(t, "aligned", r, 24-8*whole, false)
		r.Align()
		told(t, "aligned twice", r, 24-8*whole, false)
		got(t, r, 8, int(b[whole]))
	}
	r := NewReader([]byte{0xff})
	bit(t, r, 1)
	r.Align()
	told(t, "the last byte", r, 0, false)
}

func TestReaderKeepsACopy(t *testing.T) {
	memory := []byte{0xff, 0, 0xff}
	r := NewReader(memory[:1])
	memory[0] = 0
	got(t, r, 8, 0xff)
	told(t, "not behind the length", r, 0, false)
	if !bytes.Equal(memory, []byte{0, 0, 0xff}) {
		t.Errorf("what was handed in changed: %x", memory)
	}
}

func TestReaderAsAListOfDigits(t *testing.T) {
	chance := rand.New(rand.NewSource(22))
	for range 500 {
		b := make([]byte, chance.Intn(40))
		chance.Read(b)
		var digits []int
		for _, x := range b {
			digits = append(digits, lowest(int(x), 8)...)
		}
		r := NewReader(b)
		bad := false
		for range 40 {
			count := chance.Intn(17)
			switch chance.Intn(8) {
			case 0:
				digits, bad = take(t, digits, bad, 1, r.Bit())
			case 1:
				digits = digits[len(digits)%8:]
				r.Align()
			default:
				digits, bad = take(t, digits, bad, count, r.Get(count))
			}
			told(t, "by digits", r, len(digits), bad)
		}
	}
}

// take is the digits that are left once count are taken, which are to be told as n, and whether the reader is bad.
func take(t *testing.T, digits []int, bad bool, count, n int) ([]int, bool) {
	t.Helper()
	if bad || count > len(digits) {
		if n != 0 {
			t.Errorf("%d of a bad reader", n)
		}
		return digits, true
	}
	want := 0
	for _, digit := range turned(digits[:count]) {
		want = 2*want + digit
	}
	if n != want {
		t.Errorf("%#x, not %#x", n, want)
	}
	return digits[count:], false
}

func TestWhatIsWrittenIsRead(t *testing.T) {
	w := NewWriter()
	for n := range 1 << 16 {
		w.Put(n, n%17)
		if n%7 == 0 {
			w.Align()
		}
	}
	r := NewReader(w.Bytes())
	for n := range 1 << 16 {
		got(t, r, n%17, n%(1<<(n%17)))
		if n%7 == 0 {
			r.Align()
		}
	}
	r.Align()
	told(t, "all is read", r, 0, false)
}
