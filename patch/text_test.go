package patch

import (
	"math/rand"
	"slices"
	"strconv"
	"strings"
	"testing"

	"florilegium/api"
)

func checkPrinted(t *testing.T, p api.Patch, want string) {
	t.Helper()
	if got, e := Print(p); got != want || e != api.OK {
		t.Errorf("Print of %v: %q, %d, not %q", p, got, e, want)
	}
}

func checkParsed(t *testing.T, s string, want api.Patch) {
	t.Helper()
	if got, line, e := Parse(s); !Same(got, want) || line != 0 || e != api.OK {
		t.Errorf("Parse of %q: %v, line %d, %d, not %v", s, got, line, e, want)
	}
}

func checkWrong(t *testing.T, s string, want int) {
	t.Helper()
	if got, line, e := Parse(s); !Same(got, api.Patch{}) || line != want || e != api.ErrForm {
		t.Errorf("Parse of %q: %v, line %d, %d, not %d", s, got, line, e, want)
	}
}

// P8.2: Print, and Parse of what it tells

func TestPrintAndParse(t *testing.T) {
	f := at("p", 1)
	for _, c := range []struct {
		p    api.Patch
		want string
	}{
		{tagged("t"), "tag t\nneeds\n"},
		{tagged("t", "a"), "tag t\nneeds a\n"},
		{tagged("t", "0", "a", longest), "tag t\nneeds 0 a abcdefgh\n"},
		{tagged("tag"), "tag tag\nneeds\n"},
		{tagged("patch", "needs"), "tag patch\nneeds needs\n"},
		{changed("p", "", makes("x")), "patch p\nneeds\nmake x\n"},
		{changed("patch", "tag", makes("make")), "patch patch\nneeds tag\nmake make\n"},
		{changed(longest, "a b", makes(longest)), "patch abcdefgh\nneeds a b\nmake abcdefgh\n"},
		{changed("p", "", makes("x"), names(f, "y")), "patch p\nneeds\nmake x\nname p.1 y\n"},
		{changed("p", "", makes("x"), drops(f)), "patch p\nneeds\nmake x\ndrop p.1\n"},
		{changed("p", "a", drops(at("a", 40))), "patch p\nneeds a\ndrop a.40\n"},
		{changed("p", "a", cuts(at("a", 1), at("a", 2))), "patch p\nneeds a\ncut a.1 a.2\n"},
		{changed("p", "a", puts(at("a", 1), api.ID{}, "")), "patch p\nneeds a\nput a.1 - \n"},
		{changed("p", "a", puts(at("a", 1), at("a", 10), "")), "patch p\nneeds a\nput a.1 a.10 \n"},
		{changed("p", "a", puts(at("a", 1), api.ID{}, " ")), "patch p\nneeds a\nput a.1 -  \n"},
		{changed("p", "a", puts(at("a", 1), api.ID{}, "x ")), "patch p\nneeds a\nput a.1 - x \n"},
		{changed("p", "a", puts(at("a", 1), api.ID{}, " x")), "patch p\nneeds a\nput a.1 -  x\n"},
		{changed("p", "a", puts(at("a", 1), api.ID{}, "-")), "patch p\nneeds a\nput a.1 - -\n"},
		{changed("p", "a", puts(at("a", 1), api.ID{}, "a  b   c")), "patch p\nneeds a\nput a.1 - a  b   c\n"},
		{changed("p", "a", puts(at("a", 1), api.ID{}, "put a.1 - x")), "patch p\nneeds a\nput a.1 - put a.1 - x\n"},
		{changed("p", "a", puts(at("a", 1), api.ID{}, "{}[]()\"'`\\~!")), "patch p\nneeds a\nput a.1 - {}[]()\"'`\\~!\n"},
		{changed("p", "a", puts(at("a", 1), api.ID{}, fullLine)), "patch p\nneeds a\nput a.1 - " + fullLine + "\n"},
		{changed("p", "", many(api.MaxChanges)...), "patch p\nneeds\n" + strings.Repeat("make x\n", api.MaxChanges)},
		{long(), longText},
	} {
		checkPrinted(t, c.p, c.want)
		checkParsed(t, c.want, c.p)
	}
}

func TestPrintOfWhatMayNotBe(t *testing.T) {
	for _, p := range []api.Patch{
		{}, {Name: "p"}, tagged(""), tagged("t", "t"), tagged("t", "b", "a"), changed("p", "", many(api.MaxChanges+1)...),
		changed("p", "a", makes("x"), puts(at("p", 1), api.ID{}, "x\n")), changed("p", "a", makes("x"), drops(at("p", 2))),
	} {
		if s, e := Print(p); s != "" || e != api.ErrArg {
			t.Errorf("Print of %v: %q, %d", p, s, e)
		}
	}
}

// P8.2: Parse, what is wrong

const headLines = "patch p\nneeds a b\n"

func TestParseFirstLine(t *testing.T) {
	for _, first := range []string{
		"", " ", "p", "patch", "patch ", "patch  p", " patch p", "patch p ", "patch\tp", "Patch p", "PATCH p", "patchp", "patches p",
		"patch P", "patch p q", "patch p.1", "patch -", "patch é", "patch p\r", "patch " + longest + "i", "patch p\x00", "\x00",
		"tag", "tag ", "tag  p", "tag p ", "Tag p", "tags p", "tag P", "tag p q", "tag p.1", "needs", "needs p", "make x", "name p", "\xffpatch p",
	} {
		for _, behind := range []string{"", "\n", "\nneeds\n", "\nneeds\nmake x\n", "\nwrong\nwrong\n"} {
			checkWrong(t, first+behind, 1)
		}
	}
}

func TestParseNeedsLine(t *testing.T) {
	for _, needs := range []string{
		"", " ", "need", "needs ", "needs  ", " needs", "needs  a", "needs a ", "needs a  b", "needsa", "Needs a", "needs\ta", "needs,a",
		"needs p", "needs a p", "needs p q", "needs a p q", "needs b a", "needs a c b", "needs a a", "needs a b b", "needs A", "needs a B",
		"needs a.1", "needs -", "needs é", "needs a\r", "needs " + longest + "i", "needs a " + longest + "i", "make x", "patch p", "tag t", "a b",
	} {
		for _, first := range []string{"patch p\n", "tag p\n"} {
			for _, behind := range []string{"", "\n", "\nmake x\n", "\nwrong\nwrong\n"} {
				checkWrong(t, first+needs+behind, 2)
			}
		}
	}
	checkParsed(t, "tag p\nneeds o q\n", tagged("p", "o", "q"))
}

func TestParseManyNeeds(t *testing.T) {
	var needs []string
	for n := range 5000 {
		needs = append(needs, strconv.Itoa(10000+n))
	}
	checkParsed(t, "tag p\nneeds "+strings.Join(needs, " ")+"\n", tagged("p", needs...))
	needs[4999] = needs[0]
	checkWrong(t, "tag p\nneeds "+strings.Join(needs, " ")+"\n", 2)
}

// wrongChanges are not right wherever they stand in p, that needs a and b, and does not make more than two files.
func wrongChanges() []string {
	return []string{
		"", " ", "make", "make ", "make  x", " make x", "make x ", "make x y", "Make x", "makex", "make\tx", "make X", "make -", "make p.1",
		"make " + longest + "i", "make é", "make x\r", "make x\x00", "makes x",

		"name", "name ", "name a.1", "name a.1 ", "name a.1  x", "name  a.1 x", "name a.1 x ", "name a.1 x y", "name x", "name a.1 X",
		"name - x", "name a x", "name a.0 x", "name a.41 x", "name a.01 x", "name a.-1 x", "name c.1 x", "name p.40 x", "name p.41 x", "Name a.1 x",
		"name a.1 - x", "name a.1 " + longest + "i",

		"drop", "drop ", "drop -", "drop a", "drop a.", "drop  a.1", "drop a.1 ", "drop a.1 x", "drop a.1 -", "drop a.1 a.2", "drop a.0", "drop a.41", "drop a.+1",
		"drop c.1", "drop p.40", "drop p.0", "Drop a.1", "drop A.1", "drop .1", "drop a.1\r",

		"put", "put ", "put a.1", "put a.1 ", "put a.1 -", "put a.1 a.2", "put - - x", "put - a.1 x", "put  a.1 - x", "put a.1  - x", "put a.1 x", "put a.1 x y",
		"put a.0 - x", "put a.41 - x", "put a.1 a.0 x", "put a.1 a.41 x", "put c.1 - x", "put a.1 c.1 x", "put a.1 p.40 x", "put p.40 - x", "put a.1 a.1x x",
		"put a.1 - x\x7f", "put a.1 - \t", "put a.1 - x\r", "put a.1 - é", "put a.1 - " + fullLine + "0", "put a.1 - " + fullLine + " ", "Put a.1 - x", "puts a.1 - x", "put -",

		"cut", "cut ", "cut a.1", "cut a.1 ", "cut a.1 -", "cut - -", "cut - a.1", "cut a.1 a.2 ", "cut a.1 a.2 x", "cut a.1  a.2", "cut  a.1 a.2",
		"cut a.0 a.1", "cut a.1 a.0", "cut a.1 a.41", "cut c.1 a.1", "cut a.1 c.1", "cut a.1 p.40", "cut p.40 a.1", "Cut a.1 a.2", "cut a.1 A.2", "cut a.2",

		"patch p", "tag p", "needs", "needs a b", "- a", "mend x", "\x00", "\xff\xff", "=", "1 x", "0", "1", "5 a.1 a.2",
	}
}

func TestParseChanges(t *testing.T) {
	right := "make x\nput p.1 - \ncut p.1 p.2\nname a.1 q\ndrop b.2\n"
	lines := strings.SplitAfter(right, "\n")
	for _, wrong := range wrongChanges() {
		for place := range 6 {
			ahead := headLines + strings.Join(lines[:place], "")
			rest := strings.Join(lines[place:], "")
			for _, behind := range []string{"\n", "\n" + rest, "\n" + wrong + "\n", "\n\n"} {
				checkWrong(t, ahead+wrong+behind, 3+place)
			}
			if wrong != "" {
				checkWrong(t, ahead+wrong, 3+place)
			}
		}
	}
}

// TestParseByWhatIsAhead: these are right by themselves, and there are places at which they are so.
func TestParseByWhatIsAhead(t *testing.T) {
	for _, c := range []struct {
		lines string
		wrong int // 0: none
	}{
		{"make x\nname p.1 y\n", 0},
		{"name p.1 y\nmake x\n", 3},
		{"name p.1 y\n", 3},
		{"make x\nname p.2 y\n", 4},
		{"make x\nname p.2 y\nmake z\n", 4},
		{"make x\nmake y\nname p.2 z\n", 0},
		{"drop p.1\n", 3},
		{"make x\ndrop p.1\n", 0},
		{"make x\ndrop p.1\ndrop p.2\n", 5},
		{"make x\ndrop p.1\ndrop p.1\n", 0},
		{"put p.1 - x\n", 3},
		{"make x\nput p.1 - x\n", 0},
		{"make x\nput p.1 p.1 x\n", 4},
		{"make x\nput p.1 p.2 x\n", 4},
		{"make x\nput p.1 p.3 x\nput p.1 - x\n", 4},
		{"make x\nput p.1 - x\nput p.1 p.2 x\nput p.1 p.3 x\n", 0},
		{"make x\nput p.1 - x\nput p.2 - x\n", 5},
		{"make x\nput p.1 - x\nname p.2 y\n", 5},
		{"make x\nput p.1 - x\ndrop p.2\n", 5},
		{"make x\ncut p.1 p.1\n", 4},
		{"make x\nput p.1 - x\ncut p.1 p.2\n", 0},
		{"make x\ncut p.1 p.2\nput p.1 - x\n", 4},
		{"make x\nput p.1 - x\ncut p.1 p.2\ncut p.1 p.3\n", 6},
		{"make x\nmake y\nput p.1 - x\nput p.2 p.3 x\n", 6},
		{"make x\nmake y\nput p.1 - x\ncut p.2 p.3\n", 6},
		{"make x\nmake y\nput p.2 - x\ncut p.2 p.3\n", 0},
		{"put a.1 - x\nput a.1 p.1 y\ncut a.1 p.2\n", 0},
		{"put a.1 - x\ncut a.2 p.1\n", 4},
		{"put a.1 - x\nput b.1 p.1 y\n", 4},
		{"put a.1 a.40 x\nput a.1 p.1 y\nput a.1 p.3 z\n", 5},
		{"make x\nput p.1 a.1 x\ncut p.1 b.1\n", 0},
	} {
		if c.wrong > 0 {
			checkWrong(t, headLines+c.lines, c.wrong)
			continue
		}
		if p, line, e := Parse(headLines + c.lines); line != 0 || e != api.OK || len(p.Changes) != strings.Count(c.lines, "\n") {
			t.Errorf("Parse of %q: %v, line %d, %d", c.lines, p, line, e)
		}
	}
}

func TestParseHowManyLines(t *testing.T) {
	checkWrong(t, "", 1)
	checkWrong(t, "patch p\n", 2)
	checkWrong(t, headLines, 3)
	checkWrong(t, "patch p\nneeds\n", 3)
	checkWrong(t, "tag t\n", 2)
	checkWrong(t, "tag t\nneeds\n\n", 3)
	for _, third := range []string{"make x", "drop a.1", "needs", "tag t", " "} {
		checkWrong(t, "tag t\nneeds a\n"+third+"\n", 3)
		checkWrong(t, "tag t\nneeds a\n"+third, 3)
		checkWrong(t, "tag t\nneeds a\n"+strings.Repeat(third+"\n", 50), 3)
	}
	for n := 1; n <= 2*api.MaxChanges; n++ {
		s := headLines + strings.Repeat("make x\n", n)
		if n > api.MaxChanges {
			checkWrong(t, s, api.MaxChanges+3)
			continue
		}
		checkParsed(t, s, changed("p", "a b", many(n)...))
		checkWrong(t, s+"\n", n+3)
	}
	// one too many, which would be wrong anyway, or is not ended; and one ahead of it that is wrong, too
	full := headLines + strings.Repeat("make x\n", api.MaxChanges)
	checkWrong(t, full+"wrong\n", 43)
	checkWrong(t, full+"make x", 43)
	checkWrong(t, headLines+strings.Repeat("make x\n", 39)+"make X\nmake x\n", 42)
	checkWrong(t, headLines+"wrong\n"+strings.Repeat("make x\n", 50), 3)
}

// TestParseNotEnded: a text cut anywhere: the line that is not ended is not right, nor is one that is missing.
func TestParseNotEnded(t *testing.T) {
	for _, s := range []string{longText, "tag t\nneeds a b\n", "tag t\nneeds\n", "patch p\nneeds\nmake x\n"} {
		for n := range len(s) {
			lines := strings.Count(s[:n], "\n")
			if enough := lines >= 3; enough && s[n-1] == '\n' {
				if _, line, e := Parse(s[:n]); line != 0 || e != api.OK {
					t.Errorf("Parse of %q: line %d, %d", s[:n], line, e)
				}
				continue
			}
			checkWrong(t, s[:n], lines+1)
		}
		for _, more := range []string{"x", " ", "make x", "needs", "\x00", "\r"} {
			checkWrong(t, s+more, strings.Count(s, "\n")+1)
		}
	}
}

// TestParseTheFirstCounts: of several wrong lines, of whatever sort.
func TestParseTheFirstCounts(t *testing.T) {
	right := strings.SplitAfter(longText, "\n")
	right = right[:len(right)-1]
	for first := range right {
		for second := first + 1; second < len(right); second++ {
			l := slices.Clone(right)
			l[first], l[second] = "wrong\n", "wrong, too\n"
			checkWrong(t, strings.Join(l, ""), first+1)
			checkWrong(t, strings.Join(l, "")+"not ended", first+1)
			checkWrong(t, strings.Join(l, "")+strings.Repeat("make x\n", 40), first+1)
		}
	}
}

// P8.2: Parse is of which that is Print, whatever the text

// checkLineByLine: what Parse takes is the Print of it; of what it does not take the lines ahead of the wrong one may
// be, with what is missing behind them, and with that line they may not.
func checkLineByLine(t *testing.T, s string) {
	t.Helper()
	p, line, e := Parse(s)
	if e == api.OK {
		if text, e := Print(p); line != 0 || e != api.OK || text != s {
			t.Fatalf("Parse of %q: %v, line %d: told as %q, %d", s, p, line, text, e)
		}
		return
	}
	lines := strings.SplitAfter(s, "\n")
	if e != api.ErrForm || !Same(p, api.Patch{}) || line < 1 || line > len(lines) {
		t.Fatalf("Parse of %q: %v, line %d, %d", s, p, line, e)
	}
	if got, ok := completed(lines[:line-1]); line > 1 && !ok {
		t.Fatalf("%q: line %d is wrong, and what is ahead of it is, too: %d", s, line, got)
	}
	if got, ok := completed(lines[:line]); lines[line-1] != "" && ok {
		t.Fatalf("%q: line %d is wrong, and is not by itself: %d", s, line, got)
	}
}

// completed tells whether the lines may be the beginning of a patch.
func completed(lines []string) (int, bool) {
	s := strings.Join(lines, "")
	if len(lines) < 2 {
		s += "needs\n"
	}
	if len(lines) < 3 && strings.HasPrefix(s, "patch") {
		s += "make x\n"
	}
	_, line, e := Parse(s)
	return line, e == api.OK
}

// rightByChance is a patch that may be, of up to MaxChanges changes.
func rightByChance(chance *rand.Rand) api.Patch {
	p := api.Patch{Name: "p"}
	for _, need := range []string{"a", "b", "c"} {
		if chance.Intn(2) == 0 {
			p.Needs = append(p.Needs, need)
		}
	}
	if p.Tag = chance.Intn(8) == 0; p.Tag {
		return p
	}
	someone := func() api.ID {
		return at([]string{"p", "p", "p", "a", "b", "c"}[chance.Intn(6)], chance.Intn(12))
	}
	for count := 1 + chance.Intn(api.MaxChanges); len(p.Changes) < count; {
		c := api.Change{Kind: 1 + chance.Intn(5), File: someone(), Line: someone(), Text: []string{"x", "", " two  blanks "}[chance.Intn(3)]}
		if chance.Intn(2) == 0 {
			c.Line = api.ID{}
		}
		if chance.Intn(4) == 0 {
			c.File = api.ID{}
		}
		if p.Changes = append(p.Changes, c); Check(p) != api.OK {
			p.Changes = p.Changes[:len(p.Changes)-1]
		}
	}
	return p
}

func TestParsedIsPrinted(t *testing.T) {
	chance := rand.New(rand.NewSource(8))
	for range 500 {
		p := rightByChance(chance)
		s, e := Print(p)
		if e != api.OK {
			t.Fatalf("%v: %d", p, e)
		}
		checkParsed(t, s, p)
		checkLineByLine(t, s)
	}
}

// TestParseOfSpoiltTexts turns some bytes, and some lines, of right ones.
func TestParseOfSpoiltTexts(t *testing.T) {
	chance := rand.New(rand.NewSource(9))
	const signs = "\n\n  .-pabc019 xX\x00\r\x7f\xff~"
	for range 500 {
		whole, _ := Print(rightByChance(chance))
		for range 40 {
			b := []byte(whole)
			for range 1 + chance.Intn(2) {
				place := chance.Intn(len(b))
				switch sign := signs[chance.Intn(len(signs))]; chance.Intn(3) {
				case 0:
					b[place] = sign
				case 1:
					b = slices.Insert(b, place, sign)
				default:
					b = slices.Delete(b, place, min(place+1, len(b)-1))
				}
			}
			checkLineByLine(t, string(b))
			lines := strings.SplitAfter(string(b), "\n")
			i, j := chance.Intn(len(lines)), chance.Intn(len(lines))
			lines[i], lines[j] = lines[j], lines[i]
			checkLineByLine(t, strings.Join(lines, ""))
			checkLineByLine(t, strings.Join(slices.Delete(lines, i, i+1), ""))
		}
	}
}

// R1: it ends, and does not panic, at any text.

func TestParseOfEachShortText(t *testing.T) {
	signs := "\npt -a.1\xff"
	all, last := []string{""}, []string{""}
	for range 5 {
		var longer []string
		for _, s := range last {
			for i := range len(signs) {
				longer = append(longer, s+signs[i:i+1])
			}
		}
		all, last = append(all, longer...), longer
	}
	for _, s := range all {
		checkWrong(t, s, 1)
		checkLineByLine(t, "tag p\nneeds"+s)
		checkLineByLine(t, "patch p\nneeds a\n"+s)
		checkLineByLine(t, "patch p\nneeds a\nput a.1 -"+s)
	}
}

func TestParseOfAnyText(t *testing.T) {
	chance := rand.New(rand.NewSource(10))
	words := []string{"patch", "tag", "needs", "make", "name", "drop", "put", "cut", " ", " ", " ", "\n", "\n", "\n", "p", "a", "a.1", "p.1", "p.2", "-", "x", "é", "\xff"}
	for range 20000 {
		var b strings.Builder
		if chance.Intn(2) == 0 {
			b.WriteString("patch p\nneeds a\n")
		}
		for range chance.Intn(30) {
			b.WriteString(words[chance.Intn(len(words))])
		}
		checkLineByLine(t, b.String())
	}
	for _, c := range []struct {
		s     string
		wrong int
	}{
		{strings.Repeat("\n", 1<<20), 1},
		{strings.Repeat(" ", 1<<20), 1},
		{strings.Repeat("\x00", 1<<20), 1},
		{strings.Repeat("patch p\n", 1<<17), 2},
	} {
		checkWrong(t, c.s, c.wrong)
		checkWrong(t, "patch p\n "+c.s, 2)
		checkWrong(t, "patch p\nneeds\n"+c.s, 3)
		checkWrong(t, "patch p\nneeds\nmake x\n"+c.s, 4)
	}
}

// R1: of the others, too, at whatever they are handed.

func TestAnyPatches(t *testing.T) {
	chance := rand.New(rand.NewSource(11))
	texts := []string{"", "p", "a", "b", "P", "x\n", " ", "\xff", longest + "i"}
	text := func() string { return texts[chance.Intn(len(texts))] }
	n := func() int { return []int{-1 << 63, -1, 0, 1, 2, 3, 40, 41, 1<<63 - 1}[chance.Intn(9)] }
	some := func() api.ID { return at(text(), n()) }
	var l []api.Patch
	for range 3000 {
		p := api.Patch{Name: text(), Tag: chance.Intn(3) == 0}
		for range chance.Intn(3) {
			p.Needs = append(p.Needs, text())
		}
		for range chance.Intn(4) {
			p.Changes = append(p.Changes, api.Change{Kind: chance.Intn(8) - 1, File: some(), Line: some(), Text: text()})
		}
		l = append(l, p)
	}
	for i, p := range l {
		s, e := Print(p)
		if e != Check(p) || (e == api.OK) == (s == "") {
			t.Fatalf("%v: %q, %d, %d", p, s, e, Check(p))
		}
		if e == api.OK {
			checkParsed(t, s, p)
		}
		if Head(p).Name != p.Name || !Same(p, p) || Same(p, l[0]) != Same(l[0], p) {
			t.Fatalf("%d: %v", i, p)
		}
	}
}
