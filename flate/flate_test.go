package flate

import (
	"bytes"
	std "compress/flate"
	"encoding/hex"
	"io"
	"math/rand"
	"slices"
	"strings"
	"testing"

	"florilegium/api"
	"florilegium/lz"
)

// nines is n bytes, no two alike, whose fixed codes have nine digits.
func nines(n int) []byte {
	b := make([]byte, n)
	for i := range b {
		b[i] = byte(255 - i)
	}
	return b
}

func byChance(seed int64, n int) []byte {
	b := make([]byte, n)
	rand.New(rand.NewSource(seed)).Read(b)
	return b
}

// fewSorts is bytes by chance, but of so few sorts that much of them comes again.
func fewSorts(seed int64, n, sorts int) []byte {
	b := byChance(seed, n)
	for i := range b {
		b[i] = 'a' + b[i]%byte(sorts)
	}
	return b
}

// fromHex is for rows of blanks and digits.
func fromHex(t *testing.T, s string) []byte {
	t.Helper()
	b, err := hex.DecodeString(strings.ReplaceAll(s, " ", ""))
	if err != nil {
		t.Fatal(err)
	}
	return b
}

// stdUnpack is what the library makes of b, and what it leaves of it.
func stdUnpack(b []byte) (out []byte, left int, err error) {
	in := bytes.NewReader(b)
	out, err = io.ReadAll(std.NewReader(in))
	return out, in.Len(), err
}

// P5.1: Stored

func TestStoredOrdinary(t *testing.T) {
	for _, r := range []struct{ text, want string }{
		{"", "01 0000 ffff"},
		{"a", "01 0100 feff 61"},
		{"ab", "01 0200 fdff 6162"},
		{"aaaaaaaa", "01 0800 f7ff 6161616161616161"},
		{"\x00\xff", "01 0200 fdff 00ff"},
	} {
		if got := Stored([]byte(r.text)); !bytes.Equal(got, fromHex(t, r.want)) {
			t.Errorf("%q: %x", r.text, got)
		}
	}
	if got := Stored(make([]byte, 258)); !bytes.Equal(got[:5], fromHex(t, "01 0201 fdfe")) || len(got) != 263 {
		t.Errorf("258: %x", got[:5])
	}
}

func TestStoredInBlocks(t *testing.T) {
	for size, heads := range map[int][]string{
		65534:       {"01 feff 0100"},
		65535:       {"01 ffff 0000"},
		65536:       {"00 ffff 0000", "01 0100 feff"},
		2*65535 - 1: {"00 ffff 0000", "01 feff 0100"},
		2 * 65535:   {"00 ffff 0000", "01 ffff 0000"},
		2*65535 + 1: {"00 ffff 0000", "00 ffff 0000", "01 0100 feff"},
	} {
		b := byChance(int64(size), size)
		var want []byte
		rest := b
		for _, head := range heads {
			piece := rest[:min(65535, len(rest))]
			rest = rest[len(piece):]
			want = slices.Concat(want, fromHex(t, head), piece)
		}
		if got := Stored(b); !bytes.Equal(got, want) {
			t.Errorf("%d bytes: %d, not %d, from %x on", size, len(got), len(want), got[:5])
		}
	}
}

// P5.1: Fixed

func TestFixedOrdinary(t *testing.T) {
	for text, want := range map[string]string{"": "0300", "a": "4b0400", "aaaa": "4b040200", "\x8f\x90": "eb9f0000"} {
		if got := Fixed([]byte(text)); !bytes.Equal(got, fromHex(t, want)) {
			t.Errorf("%q: %x", text, got)
		}
	}
}

// TestFixedIsTheSignsOfSplit: one block, the last one, with lz's steps in it, and nothing else.
func TestFixedIsTheSignsOfSplit(t *testing.T) {
	every := make([]byte, 256)
	for i := range every {
		every[i] = byte(i)
	}
	rows := []byte("0123456789")
	for n := 3; n <= 300; n++ {
		rows = append(rows, byte(n), byte(n>>8), '-')
		rows = append(rows, bytes.Repeat([]byte{byte(n)}, n)...)
	}
	for name, b := range map[string][]byte{
		"nothing":   nil,
		"each byte": every,
		"hello":     []byte("hello, hello, hello"),
		"one sort":  bytes.Repeat([]byte{7}, 1000),
		"rows":      rows,
		"back":      slices.Concat(every[:200], byChance(5, 824), every[:200]),
		"chance":    byChance(6, 3000),
		"few sorts": fewSorts(7, 5000, 3),
	} {
		var s stream
		s.head(true, 1)
		for _, step := range lz.Split(b) {
			if step.Length == 0 {
				s.sign(int(step.Byte))
			} else {
				s.row(step.Length, step.Distance)
			}
		}
		s.end()
		got := Fixed(b)
		if !bytes.Equal(got, s.bytes()) {
			t.Errorf("%s: %x, not %x", name, got, s.bytes())
		}
		if out, left, err := stdUnpack(got); err != nil || left != 0 || !bytes.Equal(out, b) {
			t.Errorf("%s: by the library %v, left %d", name, err, left)
		}
	}
}

// P5.1: Pack

// TestPackIsTheShorterOne: nine digits a byte, and ten beside, are as many bytes as Stored has from 23 to 30 bytes.
func TestPackIsTheShorterOne(t *testing.T) {
	for n := range 113 {
		b := nines(n)
		fixed, stored := Fixed(b), Stored(b)
		want := stored
		switch {
		case n < 23:
			want = fixed
			if len(fixed) >= len(stored) {
				t.Fatalf("%d: %d is not shorter than %d", n, len(fixed), len(stored))
			}
		case n <= 30:
			if len(fixed) != len(stored) {
				t.Fatalf("%d: %d is not %d", n, len(fixed), len(stored))
			}
		default:
			if len(fixed) <= len(stored) {
				t.Fatalf("%d: %d is not longer than %d", n, len(fixed), len(stored))
			}
		}
		if got := Pack(b); !bytes.Equal(got, want) {
			t.Errorf("%d: %x, not %x", n, got, want)
		}
	}
	for _, text := range []string{"", "a", "hello, hello, hello", strings.Repeat("ab", 40000)} {
		if got := Pack([]byte(text)); !bytes.Equal(got, Fixed([]byte(text))) {
			t.Errorf("%.20q: %d bytes", text, len(got))
		}
	}
	for _, n := range []int{1000, 65535, 65536, 70000} {
		if b := byChance(8, n); !bytes.Equal(Pack(b), Stored(b)) {
			t.Errorf("%d bytes by chance are not stored", n)
		}
	}
}

func TestWhatIsHandedInStays(t *testing.T) {
	for name, call := range map[string]func([]byte) []byte{
		"Pack": Pack, "Fixed": Fixed, "Stored": Stored,
		"Unpack": func(b []byte) []byte { out, _ := Unpack(b); return out },
	} {
		for _, b := range [][]byte{[]byte("hello, hello"), nines(40), Stored(nines(40)), Fixed([]byte("hello, hello"))} {
			memory := slices.Concat(b, []byte("behind"))
			got := call(memory[:len(b)])
			if !bytes.Equal(memory, slices.Concat(b, []byte("behind"))) {
				t.Fatalf("%s: changed: %x", name, memory)
			}
			kept := bytes.Clone(got)
			clear(memory)
			if !bytes.Equal(got, kept) {
				t.Fatalf("%s: the answer shares memory", name)
			}
			clear(got)
			if again := call(b); !bytes.Equal(again, kept) {
				t.Fatalf("%s: another answer: %x, not %x", name, again, kept)
			}
		}
	}
}

// P5.3: there and back

func TestThereAndBack(t *testing.T) {
	texts := map[string][]byte{
		"nothing":          nil,
		"nought":           {0},
		"one byte":         {255},
		"a":                []byte("a"),
		"two":              []byte("aa"),
		"four":             []byte("aaaa"),
		"hello":            []byte("hello, hello, hello"),
		"nine digits":      nines(112),
		"one sort":         bytes.Repeat([]byte{'x'}, 20000),
		"periods":          bytes.Repeat([]byte("the same again. "), 2000),
		"1024 back":        bytes.Repeat(byChance(9, 1024), 5),
		"1025 back":        bytes.Repeat(byChance(9, 1025), 5),
		"few sorts":        fewSorts(10, 30000, 2),
		"more sorts":       fewSorts(11, 30000, 20),
		"chance":           byChance(12, 30000),
		"65535 by chance":  byChance(13, 65535),
		"MaxOut noughts":   make([]byte, api.MaxOut),
		"MaxOut by chance": byChance(14, api.MaxOut),
		"MaxOut of some":   fewSorts(15, api.MaxOut, 4),
	}
	for name, b := range texts {
		for how, packed := range map[string][]byte{"Pack": Pack(b), "Fixed": Fixed(b), "Stored": Stored(b)} {
			checkUnpack(t, name+" by "+how, packed, b)
			if out, left, err := stdUnpack(packed); err != nil || left != 0 || !bytes.Equal(out, b) {
				t.Errorf("%s by %s: by the library %v, left %d", name, how, err, left)
			}
		}
	}
}

func TestThereAndBackOfEveryLength(t *testing.T) {
	for n := range 700 {
		for _, b := range [][]byte{byChance(int64(n), n), fewSorts(int64(n), n, 2), bytes.Repeat([]byte{9}, n)} {
			checkUnpack(t, "Pack", Pack(b), b)
			checkUnpack(t, "Fixed", Fixed(b), b)
			checkUnpack(t, "Stored", Stored(b), b)
		}
	}
}

func TestOneByteMoreThanMaxOut(t *testing.T) {
	for _, b := range [][]byte{make([]byte, api.MaxOut+1), byChance(16, api.MaxOut+1), byChance(17, 2*api.MaxOut)} {
		checkRefused(t, "Pack", Pack(b), api.ErrLimit)
		checkRefused(t, "Fixed", Fixed(b), api.ErrLimit)
		checkRefused(t, "Stored", Stored(b), api.ErrLimit)
	}
}
