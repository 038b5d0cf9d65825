package lz

import (
	"bytes"
	"math"
	"math/rand"
	"slices"
	"strings"
	"testing"

	"florilegium/api"
)

// row is a step of so many bytes from so far back.
func row(length, distance int) Step {
	return Step{Length: length, Distance: distance}
}

// single is a step for each byte of s.
func single(s string) []Step {
	var l []Step
	for i := range len(s) {
		l = append(l, Step{Byte: s[i]})
	}
	return l
}

// split is the steps that the document asks for, by another way: a row is sought as a text, from the end of what may be
// looked at, and is made longer while it is found.
func split(b []byte) []Step {
	var l []Step
	for at := 0; at < len(b); {
		step := Step{Byte: b[at]}
		from := max(0, at-1024)
		for length := 3; length <= min(258, len(b)-at); length++ {
			found := bytes.LastIndex(b[from:at+length-1], b[at:at+length])
			if found < 0 {
				break
			}
			step = row(length, at-from-found)
		}
		l = append(l, step)
		at += max(1, step.Length)
	}
	return l
}

// other is n bytes of which no three stand twice within some thousand places, none of them a small letter: a number,
// counted up, in two bytes behind a third one that is none of theirs.
func other(n int) []byte {
	b := make([]byte, n)
	for i := range b {
		switch count := i / 3; i % 3 {
		case 0:
			b[i] = 128
		case 1:
			b[i] = byte(64 + count/64%32)
		case 2:
			b[i] = byte(count % 64)
		}
	}
	return b
}

func checkSplit(t *testing.T, name string, b []byte, want []Step) {
	t.Helper()
	if got := Split(b); !slices.Equal(got, want) {
		t.Errorf("Split of %s: %v, not %v", name, got, want)
	}
}

func TestSplitOrdinary(t *testing.T) {
	for s, want := range map[string][]Step{
		"":              nil,
		"a":             single("a"),
		"aaaa":          append(single("a"), row(3, 1)),
		"abcd":          single("abcd"),
		"abcabc":        append(single("abc"), row(3, 3)),
		"abcabcabcx":    append(append(single("abc"), row(6, 3)), single("x")...),
		"ababab":        append(single("ab"), row(4, 2)),
		"abcd-bcd":      append(single("abcd-"), row(3, 4)),
		"\x00\x00\x00":  single("\x00\x00\x00"),
		"\xff\xfe\xff":  single("\xff\xfe\xff"),
		"aaa":           single("aaa"),
		"abcab":         single("abcab"),
		"one two, one ": append(single("one two, "), row(4, 9)),
	} {
		checkSplit(t, s, []byte(s), want)
	}
	checkSplit(t, "nil", nil, nil)
}

// TestSplitShortRow: a row of 2 is none, one of 3 is.
func TestSplitShortRow(t *testing.T) {
	checkSplit(t, "a row of 2", []byte("xy-xyz"), single("xy-xyz"))
	checkSplit(t, "a row of 2 at the end", []byte("xyz-xy"), single("xyz-xy"))
	checkSplit(t, "a row of 3", []byte("xyz-xyz"), append(single("xyz-"), row(3, 4)))
}

// TestSplitLongRow: a row has at most 258 bytes; what is behind it is sought anew.
func TestSplitLongRow(t *testing.T) {
	base := other(262)
	for n, behind := range map[int][]Step{
		257: {row(257, 262)},
		258: {row(258, 262)},
		259: {row(258, 262), {Byte: base[258]}},
		260: {row(258, 262), {Byte: base[258]}, {Byte: base[259]}},
		261: {row(258, 262), row(3, 262)},
	} {
		b := append(slices.Clone(base), base[:n]...)
		checkSplit(t, "a long row", b, append(single(string(base)), behind...))
	}
	for n, behind := range map[int][]Step{
		258: {row(257, 1)},
		259: {row(258, 1)},
		260: {row(258, 1), {Byte: 'a'}},
		262: {row(258, 1), row(3, 1)},
		517: {row(258, 1), row(258, 1)},
	} {
		checkSplit(t, "one byte again and again", bytes.Repeat([]byte("a"), n), append(single("a"), behind...))
	}
}

// TestSplitHowFar: a row is looked for from 1 place to 1024 places back.
func TestSplitHowFar(t *testing.T) {
	for _, back := range []int{3, 4, 1023, 1024, 1025, 1026, 2000} {
		b := append([]byte("xyz"), other(back-3)...)
		want := append(single(string(b)), row(3, back))
		if back > 1024 {
			want = single(string(b) + "xyz")
		}
		checkSplit(t, "a row far back", append(b, "xyz"...), want)
	}
	checkSplit(t, "1 place back", []byte("aaaaa"), append(single("a"), row(4, 1)))
	// a longer row that is too far back does not count
	b := []byte("wxyz")
	b = append(b, other(500)...)
	b = append(b, "wxy"...)
	b = append(b, other(1021)[500:]...)
	want := append(single("wxyz"+string(other(500))), row(3, 504))
	want = append(want, single(string(other(1021)[500:]))...)
	want = append(want, row(3, 1024-500))
	checkSplit(t, "a longer row too far back", append(b, "wxyz"...), append(want, Step{Byte: 'z'}))
}

// TestSplitIntoItself: a row may run into itself, as far as the bytes go.
func TestSplitIntoItself(t *testing.T) {
	for period := 1; period <= 40; period++ {
		base := other(period)
		for _, n := range []int{period + 3, 2*period + 3, 200} {
			b := bytes.Repeat(base, n/period+1)[:n]
			checkSplit(t, "a row into itself", b, append(single(string(base)), row(n-period, period)))
		}
	}
}

// TestSplitSeveral: the longest, and of several as long the nearest.
func TestSplitSeveral(t *testing.T) {
	for s, want := range map[string][]Step{
		"abc1abc2abc":     append(append(append(single("abc1"), row(3, 4)), single("2")...), row(3, 4)),
		"abcd1abce2abcd":  append(append(append(single("abcd1"), row(3, 5)), single("e2")...), row(4, 10)),
		"abce1abcd2abcd":  append(append(append(single("abce1"), row(3, 5)), single("d2")...), row(4, 5)),
		"abcd1abcd2abcde": append(append(append(append(single("abcd1"), row(4, 5)), single("2")...), row(4, 5)), single("e")...),
	} {
		checkSplit(t, s, []byte(s), want)
	}
}

// TestSplitLongBehindNear: a row further back is taken if it is longer by one byte, however long the nearer one is.
func TestSplitLongBehindNear(t *testing.T) {
	base := string(other(300))
	for _, n := range []int{4, 20, 33, 128, 257, 258} {
		far, near := base[:n], base[:n-1]
		want := append(single(far+"x"), row(n-1, n+1), Step{Byte: 'y'}, row(n, 2*n+1))
		checkSplit(t, "a longer row further back", []byte(far+"x"+near+"y"+far), want)
	}
}

// TestSplitGreedy: at each place the longest row is taken, though a byte ahead of it would let a longer one follow.
func TestSplitGreedy(t *testing.T) {
	want := append(single("abc-bcdef-"), row(3, 10), row(3, 7))
	checkSplit(t, "abc, then def", []byte("abc-bcdef-abcdef"), want)
}

// TestSplitReckoned holds Split against the other way, and Join against Split, on bytes of few and of many kinds.
func TestSplitReckoned(t *testing.T) {
	random := rand.New(rand.NewSource(4))
	for i := range 400 {
		kinds := []int{1, 2, 3, 4, 20, 256}[i%6]
		b := make([]byte, random.Intn(600))
		if i%40 == 39 {
			b = make([]byte, 4000)
		}
		for k := range b {
			b[k] = byte(random.Intn(kinds))
			if far := 1 + random.Intn(1200); far <= k && random.Intn(3) == 0 {
				length := min(random.Intn(300), len(b)-k)
				for n := range length {
					b[k+n] = b[k+n-far]
				}
			}
		}
		checkSplit(t, "bytes by chance", b, split(b))
		if got, ok := Join(Split(b)); !ok || !bytes.Equal(got, b) {
			t.Fatalf("Join of Split: %v, %v", got, ok)
		}
	}
}

func TestSplitWholeOut(t *testing.T) {
	random := rand.New(rand.NewSource(41))
	for _, kinds := range []int{1, 2, 256} {
		b := make([]byte, api.MaxOut)
		for k := range b {
			b[k] = byte(random.Intn(kinds))
		}
		if got, ok := Join(Split(b)); !ok || !bytes.Equal(got, b) {
			t.Errorf("%d kinds: %d bytes, %v", kinds, len(got), ok)
		}
		// Split itself knows no such bound
		if got, ok := Join(Split(append(b, 'x'))); ok || got != nil || len(Split(append(b, 'x'))) == 0 {
			t.Errorf("%d kinds, one byte more: %d bytes, %v", kinds, len(got), ok)
		}
	}
}

// TestSplitMemory: what is handed in stays as it is, and what lies behind its length is not read.
func TestSplitMemory(t *testing.T) {
	whole := []byte("abcabcabc")
	l := Split(whole[:7])
	if want := append(single("abc"), row(4, 3)); !slices.Equal(l, want) {
		t.Errorf("a piece: %v", l)
	}
	if string(whole) != "abcabcabc" {
		t.Errorf("changed: %q", whole)
	}
	whole[0] = 'z'
	if l[0].Byte != 'a' {
		t.Error("Split kept what was handed in")
	}
	again := Split([]byte("abcabca"))
	again[0].Byte = 'q'
	if l[0].Byte != 'a' {
		t.Error("two answers share memory")
	}
}

func checkJoin(t *testing.T, l []Step, want string) {
	t.Helper()
	if b, ok := Join(l); !ok || string(b) != want {
		t.Errorf("Join of %v: %q, %v, not %q", l, b, ok, want)
	}
}

func checkNoJoin(t *testing.T, l []Step) {
	t.Helper()
	if b, ok := Join(l); ok || b != nil {
		t.Errorf("Join of %v: %d bytes, %v", l, len(b), ok)
	}
}

func TestJoinOrdinary(t *testing.T) {
	checkJoin(t, nil, "")
	checkJoin(t, []Step{}, "")
	checkJoin(t, single("abc"), "abc")
	checkJoin(t, append(single("a"), row(3, 1)), "aaaa")
	checkJoin(t, append(single("abc"), row(7, 3)), "abcabcabca")
	checkJoin(t, append(single("abcd"), row(2, 4), row(1, 1), row(3, 7)), "abcdabbabc")
	checkJoin(t, append(single("ab"), row(258, 2)), strings.Repeat("ab", 130))
	checkJoin(t, append(single("a"), row(257, 1)), strings.Repeat("a", 258))
	// of a Length of 0 the Distance does not count; of a row the Byte does not
	checkJoin(t, []Step{{Byte: 'a', Distance: 5}, {Byte: 'b', Distance: -5}, {Byte: 'c', Distance: math.MinInt}}, "abc")
	checkJoin(t, []Step{{Byte: 'a'}, {Byte: 'z', Length: 2, Distance: 1}}, "aaa")
	checkJoin(t, []Step{{}}, "\x00")
}

// TestJoinFar: Join looks as far back as there are bytes, further than Split does.
func TestJoinFar(t *testing.T) {
	b := other(40000)
	checkJoin(t, append(single(string(b)), row(5, 40000)), string(b)+string(b[:5]))
	checkJoin(t, append(single(string(b)), row(5, 1025)), string(b)+string(b[len(b)-1025:][:5]))
	checkNoJoin(t, append(single(string(b)), row(5, 40001)))
}

func TestJoinWrong(t *testing.T) {
	for _, length := range []int{-1, -3, -258, 259, 260, 512, math.MinInt, math.MaxInt} {
		for _, distance := range []int{1, 0, 2, -1} {
			checkNoJoin(t, append(single("ab"), row(length, distance)))
		}
		checkNoJoin(t, []Step{{Byte: 'a', Length: length}})
	}
	for _, distance := range []int{0, -1, 4, 5, 1024, math.MinInt, math.MaxInt} {
		for _, length := range []int{1, 2, 3, 258} {
			checkNoJoin(t, append(single("abc"), row(length, distance)))
		}
	}
	checkNoJoin(t, []Step{row(1, 1)})
	checkNoJoin(t, []Step{row(3, 0)})
	// what is wrong spoils the whole, wherever it stands
	checkNoJoin(t, append(append(single("abc"), row(3, 4)), single("de")...))
	checkNoJoin(t, append(single("abc"), row(3, 3), row(3, 7)))
	checkJoin(t, append(single("abc"), row(3, 3), row(3, 6)), "abcabcabc")
}

// filled is steps of n bytes of one kind.
func filled(n int) []Step {
	l := single("a")
	for left := n - 1; left > 0; {
		length := min(left, 258)
		l = append(l, row(length, 1))
		left -= length
	}
	return l
}

func TestJoinLimit(t *testing.T) {
	for _, n := range []int{api.MaxOut - 1, api.MaxOut} {
		if b, ok := Join(filled(n)); !ok || string(b) != strings.Repeat("a", n) {
			t.Errorf("%d bytes: %d, %v", n, len(b), ok)
		}
	}
	checkNoJoin(t, filled(api.MaxOut+1))
	checkNoJoin(t, append(filled(api.MaxOut), Step{Byte: 'a'}))
	checkNoJoin(t, append(filled(api.MaxOut), row(1, api.MaxOut)))
	checkNoJoin(t, append(filled(api.MaxOut-2), row(3, 1)))
	checkNoJoin(t, append(filled(api.MaxOut-257), row(258, 1)))
	checkNoJoin(t, single(strings.Repeat("ab", api.MaxOut/2)+"a"))
	checkJoin(t, append(filled(api.MaxOut-258), row(258, 1)), strings.Repeat("a", api.MaxOut))
	checkJoin(t, single(strings.Repeat("ab", api.MaxOut/2)), strings.Repeat("ab", api.MaxOut/2))
}

func TestJoinMemory(t *testing.T) {
	whole := append(single("abc"), row(3, 3), row(999, 0))
	before := slices.Clone(whole)
	b, ok := Join(whole[:4])
	if !ok || string(b) != "abcabc" || !slices.Equal(whole, before) {
		t.Errorf("%q, %v, %v", b, ok, whole)
	}
	c, _ := Join(whole[:4])
	c[0] = 'z'
	if string(b) != "abcabc" {
		t.Error("two answers share memory")
	}
}

// lengths and distances: RFC 1951, 3.2.5, as it is written there: the digits and the least one of each code.
func lengths() [][2]int {
	return [][2]int{{0, 3}, {0, 4}, {0, 5}, {0, 6}, {0, 7}, {0, 8}, {0, 9}, {0, 10}, {1, 11}, {1, 13}, {1, 15}, {1, 17},
		{2, 19}, {2, 23}, {2, 27}, {2, 31}, {3, 35}, {3, 43}, {3, 51}, {3, 59}, {4, 67}, {4, 83}, {4, 99}, {4, 115},
		{5, 131}, {5, 163}, {5, 195}, {5, 227}, {0, 258}}
}

func distances() [][2]int {
	return [][2]int{{0, 1}, {0, 2}, {0, 3}, {0, 4}, {1, 5}, {1, 7}, {2, 9}, {2, 13}, {3, 17}, {3, 25}, {4, 33}, {4, 49},
		{5, 65}, {5, 97}, {6, 129}, {6, 193}, {7, 257}, {7, 385}, {8, 513}, {8, 769}, {9, 1025}, {9, 1537}, {10, 2049},
		{10, 3073}, {11, 4097}, {11, 6145}, {12, 8193}, {12, 12289}, {13, 16385}, {13, 24577}}
}

func TestOfCodes(t *testing.T) {
	for i, want := range lengths() {
		if base, bits, ok := LengthOf(257 + i); base != want[1] || bits != want[0] || !ok {
			t.Errorf("LengthOf(%d): %d, %d, %v", 257+i, base, bits, ok)
		}
	}
	for i, want := range distances() {
		if base, bits, ok := DistanceOf(i); base != want[1] || bits != want[0] || !ok {
			t.Errorf("DistanceOf(%d): %d, %d, %v", i, base, bits, ok)
		}
	}
}

func TestOfNoCodes(t *testing.T) {
	for _, code := range []int{256, 286, 287, 0, 29, -1, -257, math.MinInt, math.MaxInt} {
		if base, bits, ok := LengthOf(code); base != 0 || bits != 0 || ok {
			t.Errorf("LengthOf(%d): %d, %d, %v", code, base, bits, ok)
		}
	}
	for _, code := range []int{-1, 30, 31, 257, math.MinInt, math.MaxInt} {
		if base, bits, ok := DistanceOf(code); base != 0 || bits != 0 || ok {
			t.Errorf("DistanceOf(%d): %d, %d, %v", code, base, bits, ok)
		}
	}
}

// codeIn is the last code of the table whose least one is not above n, and what is added.
func codeIn(table [][2]int, n int) (code, extra, bits int) {
	for i, line := range table {
		if line[1] <= n {
			code, extra, bits = i, n-line[1], line[0]
		}
	}
	return code, extra, bits
}

func TestLengthCode(t *testing.T) {
	for n := 3; n <= 258; n++ {
		code, extra, bits := LengthCode(n)
		wantCode, wantExtra, wantBits := codeIn(lengths(), n)
		if code != 257+wantCode || extra != wantExtra || bits != wantBits || extra >= 1<<bits {
			t.Errorf("LengthCode(%d): %d, %d, %d", n, code, extra, bits)
		}
		if base, digits, ok := LengthOf(code); base+extra != n || digits != bits || !ok {
			t.Errorf("LengthOf of LengthCode(%d): %d, %d, %v", n, base, digits, ok)
		}
	}
	if code, extra, bits := LengthCode(258); code != 285 || extra != 0 || bits != 0 {
		t.Errorf("LengthCode(258): %d, %d, %d", code, extra, bits)
	}
	for _, n := range []int{2, 1, 0, -1, -3, 259, 260, 285, math.MinInt, math.MaxInt} {
		if code, extra, bits := LengthCode(n); code != 0 || extra != 0 || bits != 0 {
			t.Errorf("LengthCode(%d): %d, %d, %d", n, code, extra, bits)
		}
	}
}

func TestDistanceCode(t *testing.T) {
	for n := 1; n <= 32768; n++ {
		code, extra, bits := DistanceCode(n)
		wantCode, wantExtra, wantBits := codeIn(distances(), n)
		if code != wantCode || extra != wantExtra || bits != wantBits || extra >= 1<<bits {
			t.Errorf("DistanceCode(%d): %d, %d, %d", n, code, extra, bits)
		}
		if base, digits, ok := DistanceOf(code); base+extra != n || digits != bits || !ok {
			t.Errorf("DistanceOf of DistanceCode(%d): %d, %d, %v", n, base, digits, ok)
		}
	}
	for _, n := range []int{0, -1, 32769, 32770, 65536, math.MinInt, math.MaxInt} {
		if code, extra, bits := DistanceCode(n); code != 0 || extra != 0 || bits != 0 {
			t.Errorf("DistanceCode(%d): %d, %d, %d", n, code, extra, bits)
		}
	}
}
