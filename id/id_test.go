package id

import (
	"math"
	"math/rand"
	"slices"
	"sort"
	"strconv"
	"strings"
	"testing"

	"florilegium/api"
)

const (
	rightSigns = "abcdefghijklmnopqrstuvwxyz0123456789"
	longest    = "abcdefgh" // MaxName signs
)

func checkRight(t *testing.T, s string, want bool) {
	t.Helper()
	if got := Right(s); got != want {
		t.Errorf("Right(%q): %v", s, got)
	}
}

func checkLine(t *testing.T, s string, want bool) {
	t.Helper()
	if got := Line(s); got != want {
		t.Errorf("Line(%q): %v", s, got)
	}
}

func checkParsed(t *testing.T, s string, want api.ID) {
	t.Helper()
	if got, ok := Parse(s); !ok || got != want {
		t.Errorf("Parse(%q): %v, %v", s, got, ok)
	}
}

func checkNone(t *testing.T, s string) {
	t.Helper()
	if got, ok := Parse(s); ok || got != (api.ID{}) {
		t.Errorf("Parse(%q): %v, %v", s, got, ok)
	}
}

func checkSet(t *testing.T, l, want []string) {
	t.Helper()
	if got := Set(l...); !slices.Equal(got, want) {
		t.Errorf("Set of %q: %q, not %q", l, got, want)
	}
}

// P7.1: Right

func TestRightOrdinary(t *testing.T) {
	for _, s := range []string{"a", "z", "0", "9", "abc", "a1", "1a", "007", "patch1", longest, "01234567", "zzzzzzzz", "99999999"} {
		checkRight(t, s, true)
	}
}

func TestRightLengths(t *testing.T) {
	checkRight(t, "", false)
	for n := 1; n <= 20; n++ {
		checkRight(t, strings.Repeat("a", n), n <= api.MaxName)
	}
	checkRight(t, strings.Repeat("0", 1<<16), false)
}

// TestRightSigns: each byte there is, alone and at each place of a name.
func TestRightSigns(t *testing.T) {
	for c := range 256 {
		sign := string([]byte{byte(c)})
		want := strings.Contains(rightSigns, sign)
		checkRight(t, sign, want)
		for place := range longest {
			checkRight(t, longest[:place]+sign+longest[place+1:], want)
		}
	}
	for _, outside := range []byte{'a' - 1, 'z' + 1, '0' - 1, '9' + 1} {
		checkRight(t, string([]byte{outside}), false)
	}
}

func TestRightWrong(t *testing.T) {
	for _, s := range []string{"A", "aB", "a b", " a", "a ", "a.", "a.1", "-", "a-b", "_", "a\n", "\x00", "é", "ä1", "a\xff", "\u0661"} {
		checkRight(t, s, false)
	}
}

// P7.1: Line

func TestLineOrdinary(t *testing.T) {
	for _, s := range []string{"", " ", "~", "a line", "  two ahead", "behind  ", "A.b-C_d", "{}[]()\"'`\\"} {
		checkLine(t, s, true)
	}
}

func TestLineLengths(t *testing.T) {
	for n := range 60 {
		checkLine(t, strings.Repeat("x", n), n <= api.MaxText)
	}
	// blanks at the end count as well
	checkLine(t, strings.Repeat(" ", api.MaxText), true)
	checkLine(t, strings.Repeat(" ", api.MaxText)+" ", false)
	checkLine(t, strings.Repeat("x", 1<<16), false)
}

func TestLineSigns(t *testing.T) {
	full := strings.Repeat("x", api.MaxText)
	for c := range 256 {
		sign := string([]byte{byte(c)})
		want := c >= 32 && c <= 126
		checkLine(t, sign, want)
		for _, place := range []int{0, 1, 20, api.MaxText - 1} {
			checkLine(t, full[:place]+sign+full[place+1:], want)
		}
	}
	for sign, want := range map[string]bool{"\x1f": false, "\x20": true, "\x7e": true, "\x7f": false} {
		checkLine(t, sign, want)
	}
}

func TestLineWrong(t *testing.T) {
	for _, s := range []string{"\n", "a\n", "\ta", "a\rb", "\x00", "é", "a\x80", "\xff", "\u00a0"} {
		checkLine(t, s, false)
	}
}

// P7.1: Less

// TestLessInOrder: of a rising list each is less than those behind it, and than no other one, nor than itself.
func TestLessInOrder(t *testing.T) {
	rising := []api.ID{
		{N: math.MinInt}, {N: -1}, {}, {N: 1}, {N: math.MaxInt},
		{Patch: "0", N: 40},
		{Patch: "10", N: 1},
		{Patch: "9", N: 1},
		{Patch: "Z", N: 9},
		{Patch: "a", N: math.MinInt}, {Patch: "a", N: -2}, {Patch: "a"}, {Patch: "a", N: 1}, {Patch: "a", N: 2}, {Patch: "a", N: 10}, {Patch: "a", N: math.MaxInt},
		{Patch: "a\x00", N: 0},
		{Patch: "a0", N: 3},
		{Patch: "ab", N: 1},
		{Patch: "b", N: 1}, {Patch: "b", N: 2},
		{Patch: "\xff", N: 1},
	}
	for i, a := range rising {
		for j, b := range rising {
			if got := Less(a, b); got != (i < j) {
				t.Errorf("Less(%#v, %#v): %v", a, b, got)
			}
		}
	}
}

func TestLessByPatchAheadOfN(t *testing.T) {
	if !Less(api.ID{Patch: "a", N: 40}, api.ID{Patch: "b", N: 1}) {
		t.Error("the lesser patch is not less")
	}
	if Less(api.ID{Patch: "b", N: 1}, api.ID{Patch: "a", N: 40}) {
		t.Error("the greater patch is less")
	}
}

// TestLessAtSameN: only the patches tell them apart.
func TestLessAtSameN(t *testing.T) {
	a, b := api.ID{Patch: "aa", N: 7}, api.ID{Patch: "ab", N: 7}
	if !Less(a, b) || Less(b, a) {
		t.Error("the same N")
	}
	if Less(a, a) || Less(api.ID{}, api.ID{}) {
		t.Error("one is less than itself")
	}
}

// P7.1: Print

func TestPrint(t *testing.T) {
	for want, x := range map[string]api.ID{
		"-":           {},
		"abc.3":       {Patch: "abc", N: 3},
		"a.1":         {Patch: "a", N: 1},
		"a.10":        {Patch: "a", N: 10},
		"a.40":        {Patch: "a", N: api.MaxChanges},
		"a.41":        {Patch: "a", N: api.MaxChanges + 1},
		"0.1":         {Patch: "0", N: 1},
		"abcdefgh.12": {Patch: longest, N: 12},
	} {
		if got := Print(x); got != want {
			t.Errorf("Print(%v): %q, not %q", x, got, want)
		}
	}
}

// TestPrintOfWhatIsNoName: only the zero ID is told as none; half of it is not.
func TestPrintOfWhatIsNoName(t *testing.T) {
	for want, x := range map[string]api.ID{
		".1":                    {N: 1},
		"a.0":                   {Patch: "a"},
		"-.0":                   {Patch: "-"},
		"a.-1":                  {Patch: "a", N: -1},
		"A b.2":                 {Patch: "A b", N: 2},
		"a.1.2":                 {Patch: "a.1", N: 2},
		"é.3":                   {Patch: "é", N: 3},
		"a.9223372036854775807": {Patch: "a", N: math.MaxInt64},
		".-9223372036854775808": {N: math.MinInt64},
		"abcdefghijklmnop.1":    {Patch: "abcdefghijklmnop", N: 1},
	} {
		if got := Print(x); got != want {
			t.Errorf("Print(%v): %q, not %q", x, got, want)
		}
	}
}

// P7.1: Parse

func TestParseOrdinary(t *testing.T) {
	for s, want := range map[string]api.ID{
		"-":           {},
		"abc.3":       {Patch: "abc", N: 3},
		"a.1":         {Patch: "a", N: 1},
		"a.9":         {Patch: "a", N: 9},
		"a.10":        {Patch: "a", N: 10},
		"a.40":        {Patch: "a", N: api.MaxChanges},
		"0.1":         {Patch: "0", N: 1},
		"007.7":       {Patch: "007", N: 7},
		"abcdefgh.40": {Patch: longest, N: 40},
	} {
		checkParsed(t, s, want)
	}
}

func TestParsedIsPrinted(t *testing.T) {
	for _, patch := range []string{"a", "0", "z9", "9z", "abc", longest, "01234567"} {
		for n := -2; n <= 2*api.MaxChanges; n++ {
			x := api.ID{Patch: patch, N: n}
			if n < 1 || n > api.MaxChanges {
				checkNone(t, Print(x))
				continue
			}
			checkParsed(t, Print(x), x)
		}
	}
}

func TestParseWrong(t *testing.T) {
	for name, texts := range map[string][]string{
		"nothing":           {""},
		"no point":          {"a", "1", "a1", "abc3", "a,1", "a 1", "a:1"},
		"two points":        {"a.1.2", "a..1", ".a.1", "a.1.", "..", "a.1.1"},
		"no digits":         {".", "a.", "a.b", "a. ", "abcdefgh."},
		"a nought ahead":    {"a.01", "a.001", "a.00", "a.040", "a.0x1", "a.0b1", "a.0o1"},
		"a sign ahead":      {"a.+1", "a.-1", "a.+40", "a.+0", "a.-0", "a.--1", "a.\u22121"},
		"other than digits": {"a. 1", "a.1 ", "a.1a", "a.a1", "a.1e1", "a.1_0", "a.1,0", "a.1\n", "a.1\x00", "a.\x001", "a.\u0661", "a.½"},
		"not Right":         {".1", "A.1", "a b.1", " a.1", "a .1", "-.1", "_.1", "é.1", "a\x00.1", "\n.1", "abcdefghi.1", "a-b.3"},
		"N below 1":         {"a.0", "-.0"},
		"N too great":       {"a.41", "a.50", "a.99", "a.100", "a.400", "a.1000000"},
		"half of none":      {"--", " -", "- ", "-\n", "-1", "+", "\u2212", "-.", ".-"},
	} {
		for _, s := range texts {
			t.Run(name, func(t *testing.T) { checkNone(t, s) })
		}
	}
}

// TestParseTooManyDigits: those about the bounds of 8, 16, 32 and 64 digits of two, too, of which some come round to a number that would be right.
func TestParseTooManyDigits(t *testing.T) {
	for _, digits := range []string{
		"257", "65537", "2147483647", "2147483649", "4294967297",
		"9223372036854775807", "9223372036854775808", "9223372036854775809",
		"18446744073709551615", "18446744073709551616", "18446744073709551617", "18446744073709551656",
		"340282366920938463463374607431768211457",
		strings.Repeat("1", 100), strings.Repeat("9", 1<<16), "1" + strings.Repeat("0", 1000),
		strings.Repeat("0", 1000) + "1",
	} {
		checkNone(t, "a."+digits)
		checkNone(t, "a.-"+digits)
	}
}

// shortTexts is each text of at most n of the signs.
func shortTexts(signs string, n int) []string {
	all, last := []string{""}, []string{""}
	for range n {
		var longer []string
		for _, s := range last {
			for i := range len(signs) {
				longer = append(longer, s+signs[i:i+1])
			}
		}
		all, last = append(all, longer...), longer
	}
	return all
}

// TestParseOfEachShortText: just those parse of which they are the Print.
func TestParseOfEachShortText(t *testing.T) {
	names := map[string]api.ID{"-": {}}
	for _, patch := range shortTexts("ab014", 4) {
		for n := 1; patch != "" && n <= api.MaxChanges; n++ {
			names[patch+"."+strconv.Itoa(n)] = api.ID{Patch: patch, N: n}
		}
	}
	for _, s := range shortTexts("ab014.-+A ", 5) {
		if x, ok := names[s]; ok {
			checkParsed(t, s, x)
		} else {
			checkNone(t, s)
		}
	}
}

// P7.1: Set

func TestSetOrdinary(t *testing.T) {
	for _, c := range []struct{ l, want []string }{
		{nil, nil},
		{[]string{}, nil},
		{[]string{"a"}, []string{"a"}},
		{[]string{""}, []string{""}},
		{[]string{"a", "b", "c"}, []string{"a", "b", "c"}},
		{[]string{"c", "b", "a"}, []string{"a", "b", "c"}},
		{[]string{"b", "a", "b", "ab"}, []string{"a", "ab", "b"}},
		{[]string{"a", "a"}, []string{"a"}},
		{[]string{"a", "a", "a", "a"}, []string{"a"}},
		{[]string{"", "a", ""}, []string{"", "a"}},
		{[]string{"a", "b", "a", "b", "a"}, []string{"a", "b"}},
		{[]string{"b", "b", "a", "a"}, []string{"a", "b"}},
	} {
		checkSet(t, c.l, c.want)
	}
}

// TestSetByBytes: byte by byte, whatever stands in the texts; what is alike but for its case, or its end, is another text.
func TestSetByBytes(t *testing.T) {
	rising := []string{"", "\x00", " ", "10", "9", "A", "Z", "a", "a\x00", "a ", "a0", "aa", "ab", "b", "~", "\x7f", "\x80", "é", "\xff", "\xff\xff"}
	falling := slices.Clone(rising)
	slices.Reverse(falling)
	checkSet(t, rising, rising)
	checkSet(t, falling, rising)
	checkSet(t, slices.Concat(falling, rising), rising)
}

func TestSetOfChance(t *testing.T) {
	chance := rand.New(rand.NewSource(7))
	for n := range 300 {
		l, seen := make([]string, n), map[string]int{}
		for i := range l {
			l[i] = strconv.Itoa(chance.Intn(1 + n/2))
			seen[l[i]]++
		}
		var want []string
		for s := range seen {
			want = append(want, s)
		}
		sort.Strings(want)
		checkSet(t, l, want)
		checkSet(t, want, want)
	}
}

// P7.1: In

func TestIn(t *testing.T) {
	for _, c := range []struct {
		l    []string
		s    string
		want bool
	}{
		{nil, "", false},
		{nil, "a", false},
		{[]string{}, "", false},
		{[]string{""}, "", true},
		{[]string{"a"}, "", false},
		{[]string{""}, "a", false},
		{[]string{"a", "b", "c"}, "a", true},
		{[]string{"a", "b", "c"}, "b", true},
		{[]string{"a", "b", "c"}, "c", true},
		{[]string{"a", "b", "c"}, "d", false},
		{[]string{"a", "c"}, "b", false},
		{[]string{"c", "a", "b"}, "a", true},
		{[]string{"c", "b", "a"}, "c", true},
		{[]string{"c", "b", "a"}, "a", true},
		{[]string{"b", "a", "b", "b"}, "a", true},
		{[]string{"abc"}, "ab", false},
		{[]string{"ab"}, "abc", false},
		{[]string{"abc"}, "bc", false},
		{[]string{"a", "b"}, "ab", false},
		{[]string{"a"}, "A", false},
		{[]string{"a"}, "a ", false},
	} {
		if got := In(c.l, c.s); got != c.want {
			t.Errorf("In(%q, %q): %v", c.l, c.s, got)
		}
	}
}

// R4

func TestWhatIsHandedInStays(t *testing.T) {
	for _, l := range [][]string{nil, {"a"}, {"a", "b"}, {"c", "b", "a"}, {"b", "a", "b", "ab"}, {"a", "a", "a"}} {
		memory := slices.Concat(l, []string{"behind", "a"})
		handed := memory[:len(l)]
		kept := Set(l...)
		got := Set(handed...)
		if In(handed, "behind") {
			t.Errorf("%q: In reads behind it", l)
		}
		if !slices.Equal(memory, slices.Concat(l, []string{"behind", "a"})) {
			t.Fatalf("%q: changed: %q", l, memory)
		}
		clear(memory)
		if !slices.Equal(got, kept) {
			t.Fatalf("%q: the answer shares memory: %q", l, got)
		}
		clear(got)
		if again := Set(l...); !slices.Equal(again, kept) {
			t.Fatalf("%q: another answer: %q, not %q", l, again, kept)
		}
	}
}

// TestAnswerMayGrow: what is put behind an answer is in neither the argument nor another answer.
func TestAnswerMayGrow(t *testing.T) {
	for _, l := range [][]string{{}, {"a"}, {"b", "a", "b"}, {"a", "a", "a"}} {
		memory := slices.Concat(l, []string{"behind", "behind"})
		first := append(Set(memory[:len(l)]...), "first")
		second := append(Set(memory[:len(l)]...), "second")
		if first[len(first)-1] != "first" || second[len(second)-1] != "second" {
			t.Errorf("%q: %q, %q", l, first, second)
		}
		if !slices.Equal(memory, slices.Concat(l, []string{"behind", "behind"})) {
			t.Errorf("%q: changed: %q", l, memory)
		}
	}
}
