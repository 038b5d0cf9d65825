package patch

import (
	"math"
	"strconv"
	"strings"
	"testing"

	"florilegium/api"
)

// checkChecked asks Print, too: it has Check's error, and an empty text beside it.
func checkChecked(t *testing.T, p api.Patch, ok bool) {
	t.Helper()
	want := api.ErrArg
	if ok {
		want = api.OK
	}
	if got := Check(p); got != want {
		t.Errorf("Check of %v: %d, not %d", p, got, want)
	}
	if text, e := Print(p); e != want || (text == "") == ok {
		t.Errorf("Print of %v: %q, %d, not %d", p, text, e, want)
	}
}

// P8.1: names and needs

func TestCheckOrdinary(t *testing.T) {
	checkChecked(t, long(), true)
	checkChecked(t, changed("a", "", makes("x")), true)
	checkChecked(t, tagged("t"), true)
	checkChecked(t, tagged("t", "a", "b"), true)
	checkChecked(t, api.Patch{}, false)
}

func TestCheckNames(t *testing.T) {
	for name, ok := range map[string]bool{
		"a": true, "0": true, "p1": true, longest: true,
		"": false, longest + "i": false, "P": false, "p p": false, "p.1": false, "-": false, "p\n": false, " p": false, "é": false, "\x00": false,
	} {
		checkChecked(t, tagged(name), ok)
		checkChecked(t, changed(name, "", makes("x")), ok)
	}
}

func TestCheckNeeds(t *testing.T) {
	for _, c := range []struct {
		needs []string
		ok    bool
	}{
		{nil, true},
		{[]string{}, true},
		{[]string{"a"}, true},
		{[]string{"z"}, true},
		{[]string{longest}, true},
		{[]string{"a", "b"}, true},
		{[]string{"0", "10", "9", "a", "ab", "b", "z"}, true},
		{[]string{"o", "q"}, true},
		{[]string{"pp", "q"}, true},

		{[]string{"b", "a"}, false},
		{[]string{"a", "c", "b"}, false},
		{[]string{"b", "a", "c"}, false},
		{[]string{"a", "9"}, false},
		{[]string{"9", "10"}, false},
		{[]string{"ab", "a"}, false},
		{[]string{"a", "a"}, false},
		{[]string{"a", "a", "b"}, false},
		{[]string{"a", "b", "b"}, false},
		{[]string{"a", "b", "a"}, false},

		{[]string{"p"}, false},
		{[]string{"a", "p"}, false},
		{[]string{"p", "q"}, false},
		{[]string{"a", "p", "q"}, false},

		{[]string{""}, false},
		{[]string{"", "a"}, false},
		{[]string{"a", ""}, false},
		{[]string{"A"}, false},
		{[]string{"A", "a"}, false},
		{[]string{"a", "a b"}, false},
		{[]string{"a", "b."}, false},
		{[]string{"a", "b", "c\n"}, false},
		{[]string{"a", longest + "i"}, false},
		{[]string{"-"}, false},
		{[]string{"z", "é"}, false},
		{[]string{"a\xff"}, false},
	} {
		checkChecked(t, tagged("p", c.needs...), c.ok)
		checkChecked(t, api.Patch{Name: "p", Needs: c.needs, Changes: many(1)}, c.ok)
	}
}

// TestCheckManyNeeds: MaxPatches is no limit of Needs.
func TestCheckManyNeeds(t *testing.T) {
	var needs []string
	for n := 100; n < 100+2*api.MaxPatches; n++ {
		needs = append(needs, strconv.Itoa(n))
	}
	checkChecked(t, tagged("p", needs...), true)
	checkChecked(t, tagged("150", needs...), false)
	checkChecked(t, api.Patch{Name: "p", Needs: needs, Changes: []api.Change{drops(at("100", 1)), cuts(at("130", 1), at("159", 2))}}, true)
}

// P8.1: how many changes

func TestCheckCounts(t *testing.T) {
	for n := range 2*api.MaxChanges + 3 {
		checkChecked(t, changed("p", "", many(n)...), n >= 1 && n <= api.MaxChanges)
		tag := tagged("p")
		tag.Changes = many(n)
		checkChecked(t, tag, n == 0)
	}
	checkChecked(t, changed("p", "a", many(1<<12)...), false)
	checkChecked(t, api.Patch{Name: "p", Changes: []api.Change{}}, false)
	checkChecked(t, api.Patch{Name: "p", Tag: true, Changes: []api.Change{}}, true)
	checkChecked(t, api.Patch{Name: "p", Tag: true, Changes: []api.Change{{}}}, false)
}

// P8.1: changes, one by one

// ahead is changes of `p`, that needs `a` and `c`: files at 1 and 4, lines of the first at 2 and 3, of the second at 5,
// of a's first at 6 and 7, and one of each other kind.
func ahead() []api.Change {
	return []api.Change{
		makes("x"), puts(at("p", 1), api.ID{}, "u"), puts(at("p", 1), at("p", 2), "v"),
		makes("y"), puts(at("p", 4), api.ID{}, "w"),
		puts(at("a", 1), api.ID{}, "r"), puts(at("a", 1), at("a", 2), "s"),
		cuts(at("p", 1), at("p", 2)), names(at("p", 4), "z"), drops(at("p", 1)),
	}
}

// checkNext: c behind what is ahead, and again with more behind it.
func checkNext(t *testing.T, c api.Change, ok bool) {
	t.Helper()
	l := append(ahead(), c)
	checkChecked(t, changed("p", "a c", l...), ok)
	checkChecked(t, changed("p", "a c", append(l, makes("q"))...), ok)
}

func TestCheckTexts(t *testing.T) {
	for _, c := range []struct {
		text       string
		name, line bool // what it may be
	}{
		{"", false, true}, {"a", true, true}, {"0", true, true}, {"x1", true, true}, {longest, true, true},
		{longest + "i", false, true}, {"X", false, true}, {"a b", false, true}, {" x", false, true}, {"x ", false, true}, {" ", false, true},
		{"x.y", false, true}, {"-", false, true}, {"x~2", false, true}, {"~", false, true}, {fullLine, false, true},
		{fullLine + "0", false, false}, {"\n", false, false}, {"x\n", false, false}, {"\nx", false, false}, {"\t", false, false}, {"\r", false, false},
		{"\x00", false, false}, {"\x1f", false, false}, {"\x7f", false, false}, {"\x80", false, false}, {"é", false, false}, {"\xff", false, false},
	} {
		checkNext(t, makes(c.text), c.name)
		checkNext(t, names(at("p", 1), c.text), c.name)
		checkNext(t, names(at("a", 1), c.text), c.name)
		checkNext(t, puts(at("p", 1), at("p", 2), c.text), c.line)
		checkNext(t, puts(at("a", 1), api.ID{}, c.text), c.line)
		checkNext(t, api.Change{Kind: api.Drop, File: at("p", 1), Text: c.text}, c.text == "")
		checkNext(t, api.Change{Kind: api.Drop, File: at("a", 1), Text: c.text}, c.text == "")
		checkNext(t, api.Change{Kind: api.Cut, File: at("p", 1), Line: at("p", 2), Text: c.text}, c.text == "")
		checkNext(t, api.Change{Kind: api.Cut, File: at("a", 1), Line: at("a", 2), Text: c.text}, c.text == "")
	}
}

func TestCheckLengths(t *testing.T) {
	for n := range 60 {
		s := strings.Repeat("a", n)
		named := n >= 1 && n <= api.MaxName
		checkNext(t, makes(s), named)
		checkNext(t, names(at("a", 1), s), named)
		checkNext(t, puts(at("a", 1), api.ID{}, s), n <= api.MaxText)
	}
}

func TestCheckKinds(t *testing.T) {
	fitting := []api.Change{
		{Text: "x"},
		{File: at("p", 1), Text: "x"},
		{File: at("p", 1)},
		{File: at("p", 1), Line: at("p", 2), Text: "x"},
		{File: at("p", 1), Line: at("p", 2)},
	}
	for _, kind := range []int{math.MinInt, -5, -1, 0, 6, 7, 256 + api.Make, math.MaxInt} {
		for _, c := range append(fitting, api.Change{}) {
			c.Kind = kind
			checkNext(t, c, false)
		}
	}
	for i, c := range fitting {
		for kind := api.Make; kind <= api.Cut; kind++ {
			c.Kind = kind
			// what fits a line to be put does so without an own text, too
			checkNext(t, c, kind == i+1 || kind == api.Put && i > 0)
		}
	}
}

// ids is each N about the bounds, of the patch itself, of those it needs, of others, and of nothing; and the zero ID.
func ids() []api.ID {
	l := []api.ID{{}}
	for _, name := range []string{"p", "a", "c", "b", "", "P", "-", "pp", "ac"} {
		for _, n := range []int{math.MinInt, -1, 0, 1, 2, 3, 4, 5, 6, 7, 8, 9, 10, 11, 12, 13, 39, 40, 41, 255, 256 + 1, math.MaxInt} {
			l = append(l, at(name, n))
		}
	}
	return l
}

// ofTheirs: an ID that Needs make right.
func ofTheirs(x api.ID) bool { return (x.Patch == "a" || x.Patch == "c") && 1 <= x.N && x.N <= 40 }

func isFile(x api.ID) bool { return ofTheirs(x) || x == at("p", 1) || x == at("p", 4) }

func isLineOf(file, x api.ID) bool {
	switch x {
	case at("p", 2), at("p", 3):
		return file == at("p", 1)
	case at("p", 5):
		return file == at("p", 4)
	case at("p", 6), at("p", 7):
		return file == at("a", 1)
	}
	return ofTheirs(x)
}

func TestCheckFiles(t *testing.T) {
	for _, x := range ids() {
		checkNext(t, api.Change{Kind: api.Make, File: x, Text: "q"}, x == api.ID{})
		checkNext(t, names(x, "q"), isFile(x))
		checkNext(t, drops(x), isFile(x))
		checkNext(t, puts(x, api.ID{}, "q"), isFile(x))
		checkNext(t, puts(x, at("a", 2), "q"), isFile(x))
		checkNext(t, cuts(x, at("a", 2)), isFile(x))
	}
}

func TestCheckLines(t *testing.T) {
	for _, x := range ids() {
		none := x == api.ID{}
		checkNext(t, api.Change{Kind: api.Make, Line: x, Text: "q"}, none)
		checkNext(t, api.Change{Kind: api.Name, File: at("p", 1), Line: x, Text: "q"}, none)
		checkNext(t, api.Change{Kind: api.Name, File: at("a", 1), Line: x, Text: "q"}, none)
		checkNext(t, api.Change{Kind: api.Drop, File: at("p", 1), Line: x}, none)
		checkNext(t, api.Change{Kind: api.Drop, File: at("a", 1), Line: x}, none)
		for _, file := range []api.ID{at("p", 1), at("p", 4), at("a", 1), at("a", 2), at("c", 1), at("c", 40)} {
			checkNext(t, puts(file, x, "q"), none || isLineOf(file, x))
			checkNext(t, cuts(file, x), isLineOf(file, x))
		}
	}
}

// TestCheckEachFileWithEachLine: both must be right.
func TestCheckEachFileWithEachLine(t *testing.T) {
	for _, file := range ids() {
		for _, line := range ids() {
			l := ahead()
			put, cut := puts(file, line, "q"), cuts(file, line)
			want := isFile(file) && isLineOf(file, line)
			if got := Check(changed("p", "a c", append(l, cut)...)) == api.OK; got != want {
				t.Errorf("cut %v of %v: %v", line, file, got)
			}
			want = want || isFile(file) && line == api.ID{}
			if got := Check(changed("p", "a c", append(l, put)...)) == api.OK; got != want {
				t.Errorf("put behind %v of %v: %v", line, file, got)
			}
		}
	}
}

// TestCheckPlaces: what is the patch's own counts from the place behind it on.
func TestCheckPlaces(t *testing.T) {
	for place := 1; place <= 4; place++ {
		for n := 0; n <= 6; n++ {
			l := many(5)
			l[place-1] = names(at("p", n), "y")
			checkChecked(t, changed("p", "", l...), n >= 1 && n < place)
			l[place-1] = drops(at("p", n))
			checkChecked(t, changed("p", "", l...), n >= 1 && n < place)
			l[place-1] = puts(at("p", n), api.ID{}, "y")
			checkChecked(t, changed("p", "", l...), n >= 1 && n < place)
		}
	}
	for place := 2; place <= 6; place++ {
		for n := 0; n <= 8; n++ {
			l := []api.Change{makes("x")}
			for range 6 {
				l = append(l, puts(at("p", 1), api.ID{}, "y"))
			}
			l[place-1] = puts(at("p", 1), at("p", n), "y")
			checkChecked(t, changed("p", "", l...), n >= 2 && n < place)
			l[place-1] = cuts(at("p", 1), at("p", n))
			checkChecked(t, changed("p", "", l...), n >= 2 && n < place)
		}
	}
}

// TestCheckAtTheLastPlace: what stands at the place MaxChanges, and names the one ahead of it.
func TestCheckAtTheLastPlace(t *testing.T) {
	last := api.MaxChanges - 1
	l := many(api.MaxChanges)
	l[last] = names(at("p", last), "y")
	checkChecked(t, changed("p", "", l...), true)
	l[last] = names(at("p", last+1), "y")
	checkChecked(t, changed("p", "", l...), false)
	l[last-1] = puts(at("p", 1), api.ID{}, "")
	l[last] = cuts(at("p", 1), at("p", last))
	checkChecked(t, changed("p", "", l...), true)
	l[last] = makes("")
	checkChecked(t, changed("p", "", l...), false)
}

// TestCheckEachPlaceCounts: a change that may not be, wherever it stands.
func TestCheckEachPlaceCounts(t *testing.T) {
	for _, count := range []int{1, 2, 3, api.MaxChanges} {
		for place := range count {
			l := many(count)
			l[place] = makes("X")
			checkChecked(t, changed("p", "a", l...), false)
		}
	}
}

// TestCheckWithoutNeeds: there are no others' files and lines.
func TestCheckWithoutNeeds(t *testing.T) {
	for _, c := range []api.Change{
		names(at("a", 1), "q"), drops(at("a", 1)), puts(at("a", 1), api.ID{}, "q"), puts(at("p", 1), at("a", 1), "q"),
		cuts(at("p", 1), at("a", 1)), cuts(at("a", 1), at("a", 2)),
		names(api.ID{}, "q"), drops(api.ID{}), puts(api.ID{}, api.ID{}, "q"), cuts(at("p", 1), api.ID{}), cuts(api.ID{}, api.ID{}),
	} {
		checkChecked(t, changed("p", "", makes("x"), c), false)
	}
	checkChecked(t, changed("p", "", makes("x"), puts(at("p", 1), api.ID{}, "")), true)
}

// TestCheckALineOfNeeds: of which file it is only facts can tell; a patch's own file may have it behind it here.
func TestCheckALineOfNeeds(t *testing.T) {
	checkChecked(t, changed("p", "a", makes("x"), puts(at("p", 1), at("a", 2), "q")), true)
	checkChecked(t, changed("p", "a", makes("x"), cuts(at("p", 1), at("a", 2))), true)
	checkChecked(t, changed("p", "a c", cuts(at("a", 1), at("c", 1))), true)
	checkChecked(t, changed("p", "a c", cuts(at("a", 1), at("a", 1))), true)
}
