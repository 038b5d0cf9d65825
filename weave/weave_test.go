package weave

import (
	"math/rand"
	"slices"
	"strings"
	"testing"

	"florilegium/api"
	"florilegium/id"
)

var (
	none = api.ID{}
	x    = api.ID{Patch: "a", N: 1}
	y    = api.ID{Patch: "z", N: 1}
)

// parsed is the ID of that text, `-` of zero.
func parsed(text string) api.ID {
	out, ok := id.Parse(text)
	if !ok {
		panic("no ID: " + text)
	}
	return out
}

func told(l []api.ID) string {
	var out []string
	for _, x := range l {
		out = append(out, id.Print(x))
	}
	return strings.Join(out, " ")
}

// heads: of each a name, and behind it what it needs; a comma between two.
func heads(text string) []api.Head {
	var out []api.Head
	for _, one := range strings.Split(text, ",") {
		words := strings.Fields(one)
		out = append(out, api.Head{Name: words[0], Needs: words[1:]})
	}
	return out
}

// in is lines of a file: of each its ID, what it stands behind, and who has cut it.
func in(file api.ID, l ...string) []api.LineFact {
	var out []api.LineFact
	for _, text := range l {
		words := strings.Fields(text)
		out = append(out, api.LineFact{ID: parsed(words[0]), File: file, After: parsed(words[1]), Text: "of " + words[0], Cuts: words[2:]})
	}
	return out
}

// of is facts of these heads and lines.
func of(who string, l ...[]api.LineFact) api.Facts {
	return api.Facts{Heads: heads(who), Files: []api.FileFact{{ID: x}, {ID: y}}, Lines: slices.Concat(l...)}
}

// inManyOrders calls look with the same facts as they are, turned round, and with their lists in many other orders.
func inManyOrders(f api.Facts, look func(f api.Facts)) {
	chance := rand.New(rand.NewSource(10))
	look(f)
	turned := api.Facts{Heads: slices.Clone(f.Heads), Files: f.Files, Lines: slices.Clone(f.Lines)}
	slices.Reverse(turned.Heads)
	slices.Reverse(turned.Lines)
	look(turned)
	for range 30 {
		mixed := api.Facts{Heads: slices.Clone(f.Heads), Files: f.Files, Lines: slices.Clone(f.Lines)}
		chance.Shuffle(len(mixed.Heads), func(i, j int) { mixed.Heads[i], mixed.Heads[j] = mixed.Heads[j], mixed.Heads[i] })
		chance.Shuffle(len(mixed.Lines), func(i, j int) { mixed.Lines[i], mixed.Lines[j] = mixed.Lines[j], mixed.Lines[i] })
		look(mixed)
	}
}

// check: the Order of a file, and what of it is Shown.
func check(t *testing.T, f api.Facts, file api.ID, order, shown string) {
	t.Helper()
	inManyOrders(f, func(f api.Facts) {
		if got := told(Order(f, file)); got != order {
			t.Errorf("Order: %q, not %q", got, order)
		}
		if got := told(Shown(f, file)); got != shown {
			t.Errorf("Shown: %q, not %q", got, shown)
		}
	})
}

// checkUncut: where no line is cut all of Order is Shown.
func checkUncut(t *testing.T, f api.Facts, file api.ID, order string) {
	t.Helper()
	check(t, f, file, order, order)
}

func checkBehind(t *testing.T, f api.Facts, file api.ID, line, want string) {
	t.Helper()
	inManyOrders(f, func(f api.Facts) {
		if got := told(Behind(f, file, parsed(line))); got != want {
			t.Errorf("Behind %s: %q, not %q", line, got, want)
		}
	})
}

// P10.1: few lines

func TestNoLines(t *testing.T) {
	for _, f := range []api.Facts{{}, {Heads: []api.Head{}, Files: []api.FileFact{}, Lines: []api.LineFact{}}, of("a"), of("a, z a")} {
		for _, file := range []api.ID{x, y, none} {
			checkUncut(t, f, file, "")
			checkBehind(t, f, file, "-", "")
			checkBehind(t, f, file, "a.1", "")
		}
	}
}

func TestAFileThatIsNotThere(t *testing.T) {
	f := of("a", in(x, "a.2 -", "a.3 a.2"))
	for _, file := range []api.ID{none, y, {Patch: "a"}, {Patch: "a", N: 2}, {Patch: "a", N: -1}, {Patch: "a", N: 11}, {Patch: "A", N: 1}, {Patch: "aa", N: 1}, {N: 1}} {
		checkUncut(t, f, file, "")
		checkBehind(t, f, file, "-", "")
		checkBehind(t, f, file, "a.2", "")
	}
}

func TestOneLine(t *testing.T) {
	f := of("a", in(x, "a.2 -"))
	checkUncut(t, f, x, "a.2")
	checkBehind(t, f, x, "-", "a.2")
	checkBehind(t, f, x, "a.2", "")

	f = of("a", in(x, "a.2 - a"))
	check(t, f, x, "a.2", "")
	checkBehind(t, f, x, "-", "a.2")
}

// TestTwoFiles: each has its own lines alone, whoever put them.
func TestTwoFiles(t *testing.T) {
	f := of("a, b a, z a b", in(x, "a.2 -", "b.1 a.2", "z.3 -"), in(y, "z.2 -", "z.4 z.2", "z.5 -"))
	checkUncut(t, f, x, "z.3 a.2 b.1")
	checkUncut(t, f, y, "z.5 z.2 z.4")
	checkBehind(t, f, x, "-", "z.3 a.2")
	checkBehind(t, f, y, "-", "z.5 z.2")
	checkBehind(t, f, x, "a.2", "b.1")
	checkBehind(t, f, y, "z.2", "z.4")
	checkBehind(t, f, y, "a.2", "")
	checkBehind(t, f, x, "z.2", "")
}

// TestFilesOfOnePatch: they differ by N alone; files of two patches with one N by the patch.
func TestFilesOfOnePatch(t *testing.T) {
	f := of("a, b", in(x, "a.3 -"), in(parsed("a.2"), "a.4 -"), in(parsed("b.1"), "b.2 -"))
	checkUncut(t, f, x, "a.3")
	checkUncut(t, f, parsed("a.2"), "a.4")
	checkUncut(t, f, parsed("b.1"), "b.2")
}

// P10.1: several lines behind one

func TestLinesOfOnePatch(t *testing.T) {
	f := of("a", in(x, "a.2 -", "a.3 -", "a.10 -", "a.40 -"))
	checkUncut(t, f, x, "a.40 a.10 a.3 a.2")
	checkBehind(t, f, x, "-", "a.40 a.10 a.3 a.2")

	f = of("a, b a", in(x, "a.2 -", "b.9 a.2", "b.11 a.2", "b.2 a.2"))
	checkUncut(t, f, x, "a.2 b.11 b.9 b.2")
	checkBehind(t, f, x, "a.2", "b.11 b.9 b.2")
}

// TestLinesOfPatchesApart: where neither needs the other the greater name is the later one.
func TestLinesOfPatchesApart(t *testing.T) {
	f := of("a, b a, c a, 9 a, bb a", in(x, "a.2 -", "b.1 a.2", "c.1 a.2", "9.1 a.2", "bb.1 a.2"))
	checkUncut(t, f, x, "a.2 c.1 bb.1 b.1 9.1")
	checkBehind(t, f, x, "a.2", "c.1 bb.1 b.1 9.1")
}

// TestLinesOfPatchesThatNeed: the one that needs the other is the later one, whatever their names are.
func TestLinesOfPatchesThatNeed(t *testing.T) {
	checkBehind(t, of("a, b a, c a b", in(x, "a.2 -", "b.1 a.2", "c.1 a.2")), x, "a.2", "c.1 b.1")
	checkBehind(t, of("a, b a c, c a", in(x, "a.2 -", "b.1 a.2", "c.1 a.2")), x, "a.2", "b.1 c.1")
	checkBehind(t, of("a c, b a, c", in(parsed("c.1"), "a.1 -", "b.1 -", "c.2 -")), parsed("c.1"), "-", "b.1 a.1 c.2")
	checkUncut(t, of("a b, b c, c d, d", in(parsed("d.1"), "a.1 -", "b.1 -", "c.1 -", "d.2 -")), parsed("d.1"), "a.1 b.1 c.1 d.2")
}

// TestLinesOfPatchesThatNeedThroughAnother: which has no line there.
func TestLinesOfPatchesThatNeedThroughAnother(t *testing.T) {
	checkBehind(t, of("m, b c, c z, z m", in(x, "m.2 -", "b.1 -", "z.1 -")), x, "-", "b.1 z.1 m.2")
}

// TestLinesByTheOrderOfAllHeads: of two apart one may be later by what it waits for, though its name is the lesser one.
func TestLinesByTheOrderOfAllHeads(t *testing.T) {
	// Order: m x a y, then m a x y.
	checkBehind(t, of("a x, m, x m, y m", in(x, "a.1 -", "m.1 -", "x.1 -", "y.1 -")), x, "-", "y.1 a.1 x.1 m.1")
	checkBehind(t, of("a m, m, x m, y m", in(x, "a.1 -", "m.1 -", "x.1 -", "y.1 -")), x, "-", "y.1 x.1 a.1 m.1")
	// Order: k b c a; a waits for c, that is apart from b.
	checkBehind(t, of("k, b k, c k, a c", in(x, "b.1 -", "a.1 -")), x, "-", "a.1 b.1")
	// a tag, too, may be what is waited for
	f := of("k, b k, c k, a c", in(x, "b.1 -", "a.1 -"))
	f.Heads[2].Tag = true
	checkBehind(t, f, x, "-", "a.1 b.1")
}

// TestLinesOfSeveralPatches: a later patch goes ahead, whatever the N are; within each patch the N fall.
func TestLinesOfSeveralPatches(t *testing.T) {
	f := of("a, b a, c a", in(x, "a.2 -", "a.40 a.2", "a.3 a.2", "b.30 a.2", "b.5 a.2", "c.1 a.2", "c.2 a.2"))
	checkBehind(t, f, x, "a.2", "c.2 c.1 b.30 b.5 a.40 a.3")
	checkUncut(t, f, x, "a.2 c.2 c.1 b.30 b.5 a.40 a.3")

	f = of("a, b a c, c a", in(x, "a.2 -", "b.1 a.2", "b.2 a.2", "c.39 a.2", "c.40 a.2"))
	checkBehind(t, f, x, "a.2", "b.2 b.1 c.40 c.39")
}

// P10.1: lines behind lines

func TestARowOfLines(t *testing.T) {
	checkUncut(t, of("a", in(x, "a.2 -", "a.3 a.2", "a.4 a.3", "a.5 a.4")), x, "a.2 a.3 a.4 a.5")
	f := of("a, b a, c b a, d c", in(x, "a.2 -", "b.1 a.2", "c.1 b.1", "d.1 c.1"))
	checkUncut(t, f, x, "a.2 b.1 c.1 d.1")
	checkBehind(t, f, x, "-", "a.2")
	checkBehind(t, f, x, "a.2", "b.1")
	checkBehind(t, f, x, "c.1", "d.1")
}

// TestEachAtOnceFollowedByItsOwn: all that stands behind a line, through others too, is out ahead of the next one.
func TestEachAtOnceFollowedByItsOwn(t *testing.T) {
	f := of("a, b a, c a, d b c", in(x,
		"a.2 -", "a.3 a.2", "b.1 a.2", "b.2 b.1", "b.3 b.1", "b.4 b.2", "c.1 a.2", "c.2 c.1", "d.1 c.2", "d.2 b.4", "d.3 a.3"))
	checkUncut(t, f, x, "a.2 c.1 c.2 d.1 b.1 b.3 b.2 b.4 d.2 a.3 d.3")
	checkBehind(t, f, x, "a.2", "c.1 b.1 a.3")
	checkBehind(t, f, x, "b.1", "b.3 b.2")
}

// TestLinesAtTheHead: between those behind zero stand the lines behind these.
func TestLinesAtTheHead(t *testing.T) {
	f := of("a, b a, c b", in(x, "a.2 -", "a.3 a.2", "b.1 -", "b.2 b.1", "c.1 -", "c.2 c.1", "c.3 a.2"))
	checkUncut(t, f, x, "c.1 c.2 b.1 b.2 a.2 c.3 a.3")
	checkBehind(t, f, x, "-", "c.1 b.1 a.2")
}

// TestALaterPatchBehindAnEarlierLine: where a line stands is for its After to say first, then for its patch.
func TestALaterPatchBehindAnEarlierLine(t *testing.T) {
	checkUncut(t, of("a, b a, z a", in(x, "a.2 -", "b.1 -", "z.1 a.2")), x, "b.1 a.2 z.1")
	checkUncut(t, of("a, b a, z a", in(x, "a.2 -", "b.1 a.2", "z.1 -")), x, "z.1 a.2 b.1")
}

func TestBehindALineThatHasNone(t *testing.T) {
	f := of("a, b a", in(x, "a.2 -", "b.1 a.2"))
	for _, line := range []string{"b.1", "a.3", "a.1", "b.2", "q.1"} {
		checkBehind(t, f, x, line, "")
	}
	for _, line := range []api.ID{{Patch: "a"}, {Patch: "a", N: -2}, {N: 2}, {Patch: "A", N: 2}, {Patch: "a ", N: 2}} {
		if got := Behind(f, x, line); len(got) != 0 {
			t.Errorf("Behind %v: %v", line, got)
		}
	}
}

// TestBehindALineOfAnotherFile: it is a line, but none that a line of this file stands behind.
func TestBehindALineOfAnotherFile(t *testing.T) {
	f := of("a, z", in(x, "a.2 -", "a.3 a.2"), in(y, "z.2 -"))
	checkBehind(t, f, y, "a.2", "")
	checkBehind(t, f, x, "z.2", "")
}

// P10.1: lines that were cut

func TestLinesThatWereCut(t *testing.T) {
	who := "a, b a, c a, d a b c"
	check(t, of(who, in(x, "a.2 - b", "a.3 a.2")), x, "a.2 a.3", "a.3")
	check(t, of(who, in(x, "a.2 - b c", "a.3 a.2")), x, "a.2 a.3", "a.3")
	check(t, of(who, in(x, "a.2 -", "a.3 a.2 a")), x, "a.2 a.3", "a.2")
	check(t, of(who, in(x, "a.2 - b", "a.3 a.2 b c d")), x, "a.2 a.3", "")
	check(t, of(who, in(x, "a.2 - d", "b.1 a.2", "c.1 a.2 d", "b.2 b.1 c", "d.1 b.2", "d.2 c.1")), x, "a.2 c.1 d.2 b.1 b.2 d.1", "d.2 b.1 d.1")
}

// TestBehindTellsCutLinesToo: and those behind a line that was cut.
func TestBehindTellsCutLinesToo(t *testing.T) {
	f := of("a, b a, c a", in(x, "a.2 - b", "a.3 a.2 c", "b.1 a.2", "c.1 a.2 b c"))
	checkBehind(t, f, x, "a.2", "c.1 b.1 a.3")
	checkBehind(t, f, x, "-", "a.2")
}

// TestCutsOfAnotherFile: they are nothing to this one.
func TestCutsOfAnotherFile(t *testing.T) {
	f := of("a, z a", in(x, "a.2 -", "a.3 a.2 z"), in(y, "z.2 - z", "z.3 z.2"))
	check(t, f, x, "a.2 a.3", "a.2")
	check(t, f, y, "z.2 z.3", "z.3")
}

// TestNoOneHasCut: neither nil nor an empty list is a cut.
func TestNoOneHasCut(t *testing.T) {
	f := of("a", in(x, "a.2 -", "a.3 a.2"))
	f.Lines[0].Cuts, f.Lines[1].Cuts = nil, []string{}
	checkUncut(t, f, x, "a.2 a.3")
}

// TestTextsAndFilesDoNotCount: a line without a text, or of a file that was dropped or renamed, has its place.
func TestTextsAndFilesDoNotCount(t *testing.T) {
	f := of("a, b a", in(x, "a.2 -", "a.3 a.2", "b.1 a.2 b"))
	for i := range f.Lines {
		f.Lines[i].Text = ""
	}
	f.Files = []api.FileFact{{ID: x, Drops: []string{"b"}, Names: []api.Called{{By: x, Text: "q"}}}}
	check(t, f, x, "a.2 b.1 a.3", "a.2 a.3")
	f.Files = nil
	check(t, f, x, "a.2 b.1 a.3", "a.2 a.3")
}
