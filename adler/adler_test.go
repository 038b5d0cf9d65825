package adler

import (
	"bytes"
	"hash/adler32"
	"math/rand"
	"slices"
	"strconv"
	"strings"
	"testing"
)

func byChance(seed int64, n int) []byte {
	b := make([]byte, n)
	rand.New(rand.NewSource(seed)).Read(b)
	return b
}

func texts() map[string][]byte {
	every := make([]byte, 256)
	for i := range every {
		every[i] = byte(i)
	}
	return map[string][]byte{
		"nothing":   nil,
		"nought":    {0},
		"noughts":   make([]byte, 70),
		"one":       {255},
		"wikipedia": []byte("Wikipedia"),
		"each byte": every,
		"greatest":  bytes.Repeat([]byte{255}, 300),
		"chance":    byChance(1, 200),
	}
}

func sumOf(a, c int) int {
	return c*65536 + a
}

func checkSealed(t *testing.T, name string, b, sealed []byte) {
	t.Helper()
	got, ok := Open(sealed)
	if !ok || !bytes.Equal(got, b) {
		t.Errorf("%s: opened %v, %d bytes, not %d", name, ok, len(got), len(b))
	}
}

func checkNone(t *testing.T, name string, b []byte) {
	t.Helper()
	if got, ok := Open(b); ok || len(got) != 0 {
		t.Errorf("%s: %v, %x", name, ok, got)
	}
}

// P6.1: Of

func TestOfOrdinary(t *testing.T) {
	for text, want := range map[string]int{
		"":          1,
		"\x00":      sumOf(1, 1),
		"\x00\x00":  sumOf(1, 2),
		"\x01":      sumOf(2, 2),
		"\xff":      sumOf(256, 256),
		"a":         sumOf(98, 98),
		"ab":        sumOf(196, 294),
		"ba":        sumOf(196, 295),
		"Wikipedia": 300286872,
	} {
		if got := Of([]byte(text)); got != want {
			t.Errorf("%q: %d, not %d", text, got, want)
		}
	}
	if got := Of(nil); got != 1 {
		t.Errorf("nil: %d", got)
	}
}

// TestOfWhereAComesRound: 256 bytes of 255 bring a to 65281, so that 239 are left to 65520.
func TestOfWhereAComesRound(t *testing.T) {
	full := bytes.Repeat([]byte{255}, 256)
	for last, want := range map[byte]int{238: 65519, 239: 65520, 240: 0, 241: 1, 255: 15} {
		if got := Of(slices.Concat(full, []byte{last})) % 65536; got != want {
			t.Errorf("%d behind: a is %d, not %d", last, got, want)
		}
	}
	if got := Of(slices.Concat(full, []byte{240, 7})) % 65536; got != 7 {
		t.Errorf("from 0 on: a is %d", got)
	}
}

// TestOfWhereCComesRound: of noughts a stays 1, and c is their number.
func TestOfWhereCComesRound(t *testing.T) {
	for n, c := range map[int]int{65519: 65519, 65520: 65520, 65521: 0, 65522: 1, 2 * 65521: 0, 2*65521 + 3: 3} {
		if got := Of(make([]byte, n)); got != sumOf(1, c) {
			t.Errorf("%d noughts: %d, not %d", n, got, sumOf(1, c))
		}
	}
	// of n bytes of 255 c is 255 times 1 + 2 + .. + n, and n: 64537 at 22, 70403 at 23
	for n, c := range map[int]int{22: 64537, 23: 70403 - 65521} {
		if got := Of(bytes.Repeat([]byte{255}, n)); got != sumOf(1+255*n, c) {
			t.Errorf("%d bytes of 255: %d, not %d", n, got, sumOf(1+255*n, c))
		}
	}
}

func TestOfIsTheLibrarys(t *testing.T) {
	for n := range 1200 {
		for _, b := range [][]byte{byChance(int64(n), n), bytes.Repeat([]byte{255}, n), make([]byte, n)} {
			if got, want := Of(b), int(adler32.Checksum(b)); got != want {
				t.Fatalf("%d bytes: %d, not %d", n, got, want)
			}
		}
	}
	for name, b := range map[string][]byte{
		"chance":   byChance(2, 1<<20),
		"greatest": bytes.Repeat([]byte{255}, 1<<20),
		"text":     []byte(strings.Repeat("a long text, and longer. ", 20000)),
	} {
		if got, want := Of(b), int(adler32.Checksum(b)); got != want {
			t.Errorf("%s: %d, not %d", name, got, want)
		}
	}
}

// P6.1: Seal and Open

func TestSealOrdinary(t *testing.T) {
	for text, want := range map[string][]byte{
		"":          {0, 0, 0, 1},
		"a":         {0, 98, 0, 98, 'a'},
		"Wikipedia": {0x11, 0xe6, 0x03, 0x98, 'W', 'i', 'k', 'i', 'p', 'e', 'd', 'i', 'a'},
		"\xff\xff":  {0x02, 0xff, 0x01, 0xff, 255, 255},
	} {
		if got := Seal([]byte(text)); !bytes.Equal(got, want) {
			t.Errorf("%q: %x, not %x", text, got, want)
		}
	}
	if got := Seal(nil); !bytes.Equal(got, []byte{0, 0, 0, 1}) {
		t.Errorf("nil: %x", got)
	}
}

// TestSealOfGreatSums: c in the upper bytes is above 32767 in some of them.
func TestSealOfGreatSums(t *testing.T) {
	for _, n := range []int{32767, 32768, 65520, 65521} {
		b := make([]byte, n)
		c := n % 65521
		got := Seal(b)
		if !bytes.Equal(got[:4], []byte{byte(c >> 8), byte(c), 0, 1}) || !bytes.Equal(got[4:], b) {
			t.Errorf("%d noughts: %x", n, got[:4])
		}
		checkSealed(t, "noughts", b, got)
	}
}

func TestSealedIsOpened(t *testing.T) {
	for name, b := range texts() {
		checkSealed(t, name, b, Seal(b))
		checkSealed(t, name+" twice", Seal(b), Seal(Seal(b)))
	}
	for n := range 600 {
		b := byChance(int64(n), n)
		checkSealed(t, "chance", b, Seal(b))
	}
	long := byChance(3, 1<<18)
	checkSealed(t, "long", long, Seal(long))
}

func TestOpenOfFewBytes(t *testing.T) {
	for _, b := range [][]byte{nil, {}, {0}, {1}, {0, 0}, {0, 1}, {0, 0, 0}, {0, 0, 1}, {255, 255, 255}} {
		checkNone(t, "few", b)
	}
}

func TestOpenOfAnotherSum(t *testing.T) {
	for _, b := range [][]byte{
		{0, 0, 0, 0},
		{0, 0, 0, 2},
		{1, 0, 0, 0},
		{0, 1, 0, 1},
		{255, 255, 255, 255},
		{0, 0, 0, 1, 'a'},
		{98, 0, 98, 0, 'a'},
		{0, 98, 0, 98, 'b'},
		{0, 98, 0, 98},
		{'a', 0, 98, 0, 98},
	} {
		checkNone(t, "another sum", b)
	}
	// only the remainder itself is a sum: 65522 is not 1, nor is 65521 0
	checkNone(t, "a of 65522", []byte{0, 0, 0xff, 0xf2})
	checkNone(t, "c of 65521", []byte{0xff, 0xf1, 0, 1})
	checkNone(t, "another one's sum", slices.Concat(Seal([]byte("one"))[:4], []byte("two")))
}

func TestOpenOfTooFewAndTooMany(t *testing.T) {
	for name, b := range texts() {
		sealed := Seal(b)
		for cut := range len(sealed) {
			checkNone(t, name+" cut", sealed[:cut])
		}
		for more := range 256 {
			checkNone(t, name+" with a byte more", append(bytes.Clone(sealed), byte(more)))
		}
	}
}

// TestNoughtsWhereAIsNought: there a nought behind leaves the sum as it is, so both are seals, each of its own text.
func TestNoughtsWhereAIsNought(t *testing.T) {
	b := append(bytes.Repeat([]byte{255}, 256), 240)
	more := append(bytes.Clone(b), 0)
	if Of(b) != Of(more) {
		t.Fatalf("%d and %d", Of(b), Of(more))
	}
	checkSealed(t, "without", b, Seal(b))
	checkSealed(t, "with", more, append(Seal(b), 0))
	checkNone(t, "with another byte", append(Seal(b), 1))
}

func TestOpenOfShiftedSeals(t *testing.T) {
	for name, b := range texts() {
		sealed := Seal(b)
		checkNone(t, name+" from its second byte on", sealed[1:])
		checkNone(t, name+" behind a byte", append([]byte{7}, sealed...))
	}
}

// P6.2

func TestOneByteIsAnotherOne(t *testing.T) {
	for name, b := range texts() {
		sealed := Seal(b)
		for place, was := range sealed {
			for value := range 256 {
				if byte(value) == was {
					continue
				}
				sealed[place] = byte(value)
				if got, ok := Open(sealed); ok || len(got) != 0 {
					t.Fatalf("%s: byte %d is %d, not %d, and it opens", name, place, value, was)
				}
			}
			sealed[place] = was
		}
		checkSealed(t, name, b, sealed)
	}
}

// TestOneByteOfALongOne: places at both ends, in the middle, and where c has come round.
func TestOneByteOfALongOne(t *testing.T) {
	for _, b := range [][]byte{byChance(4, 70000), make([]byte, 70000), bytes.Repeat([]byte{255}, 70000)} {
		sealed := Seal(b)
		for _, place := range []int{0, 1, 2, 3, 4, 5, 35000, 4479, 4480, 65524, 65525, 69999, 70003} {
			was := sealed[place]
			for _, by := range []byte{1, 15, 16, 128, 240, 241, 255} {
				sealed[place] = was + by
				checkNone(t, "long", sealed)
			}
			sealed[place] = was
		}
		checkSealed(t, "long", b, sealed)
	}
}

// R4

func TestWhatIsHandedInStays(t *testing.T) {
	for name, call := range map[string]func([]byte) []byte{
		"Of":   func(b []byte) []byte { return strconv.AppendInt(nil, int64(Of(b)), 10) },
		"Seal": Seal,
		"Open": func(b []byte) []byte { out, _ := Open(b); return out },
	} {
		for _, b := range [][]byte{nil, []byte("hello"), Seal(nil), Seal([]byte("hello")), Seal(byChance(5, 300))} {
			memory := slices.Concat(b, []byte("behind"))
			got := call(memory[:len(b)])
			if !bytes.Equal(memory, slices.Concat(b, []byte("behind"))) {
				t.Fatalf("%s: changed: %x", name, memory)
			}
			kept := bytes.Clone(got)
			clear(memory)
			if !bytes.Equal(got, kept) {
				t.Fatalf("%s: the answer shares memory", name)
			}
			clear(got)
			if again := call(b); !bytes.Equal(again, kept) {
				t.Fatalf("%s: another answer: %x, not %x", name, again, kept)
			}
		}
	}
}
