package facts

import (
	"math/rand"
	"reflect"
	"slices"
	"strconv"
	"strings"
	"testing"

	"florilegium/api"
	"florilegium/id"
	"florilegium/patch"
)

// read is the patch of these lines; without `needs`, it needs nothing.
func read(l ...string) api.Patch {
	if len(l) < 2 || !strings.HasPrefix(l[1], "needs") {
		l = slices.Insert(slices.Clone(l), 1, "needs")
	}
	p, line, e := patch.Parse(strings.Join(l, "\n") + "\n")
	if e != api.OK {
		panic("line " + strconv.Itoa(line) + " of " + strings.Join(l, "; "))
	}
	return p
}

// told is facts as a text, a line each.
func told(f api.Facts) []string {
	var out []string
	for _, h := range f.Heads {
		kind := "patch"
		if h.Tag {
			kind = "tag"
		}
		out = append(out, strings.Join(append([]string{kind, h.Name}, h.Needs...), " "))
	}
	for _, file := range f.Files {
		text := "file " + id.Print(file.ID) + " called"
		for _, c := range file.Names {
			text += " " + c.Text + " " + id.Print(c.By)
		}
		out = append(out, text+"; drops "+strings.Join(file.Drops, " ")+"; touch "+strings.Join(file.Touch, " "))
	}
	for _, l := range f.Lines {
		out = append(out, "line "+id.Print(l.ID)+" of "+id.Print(l.File)+" behind "+id.Print(l.After)+" "+l.Text+"; cuts "+strings.Join(l.Cuts, " "))
	}
	return out
}

// check: what patches come to, in whatever order they are handed in, and one by one as they stand.
func check(t *testing.T, l []api.Patch, want ...string) {
	t.Helper()
	chance := rand.New(rand.NewSource(1))
	var one api.Facts
	e := api.OK
	for _, p := range l {
		if one, e = Add(one, p); e != api.OK {
			t.Fatalf("Add of %v: %d", p, e)
		}
	}
	if got := told(one); !slices.Equal(got, want) {
		t.Fatalf("Add one by one:\n%s\nnot\n%s", strings.Join(got, "\n"), strings.Join(want, "\n"))
	}
	for range 20 {
		got, e := Of(l...)
		if e != api.OK || !slices.Equal(told(got), want) {
			t.Fatalf("Of: %d\n%s\nnot\n%s", e, strings.Join(told(got), "\n"), strings.Join(want, "\n"))
		}
		l = slices.Clone(l)
		chance.Shuffle(len(l), func(i, j int) { l[i], l[j] = l[j], l[i] })
	}
}

func checkOfError(t *testing.T, want api.Errno, l ...api.Patch) {
	t.Helper()
	got, e := Of(l...)
	if e != want || !reflect.DeepEqual(got, api.Facts{}) {
		t.Errorf("Of: %d, not %d; %v", e, want, got)
	}
}

func checkAddError(t *testing.T, want api.Errno, f api.Facts, p api.Patch) {
	t.Helper()
	got, e := Add(f, p)
	if e != want || !reflect.DeepEqual(got, api.Facts{}) {
		t.Errorf("Add of %v: %d, not %d; %v", p, e, want, got)
	}
}

func come(l ...api.Patch) api.Facts {
	f, e := Of(l...)
	if e != api.OK {
		panic("error " + strconv.Itoa(int(e)))
	}
	return f
}

// P11.1: what each change comes to

func TestOfNothing(t *testing.T) {
	check(t, nil)
	if got, e := Of(); e != api.OK || !reflect.DeepEqual(got, api.Facts{}) {
		t.Errorf("Of nothing: %v, %d", got, e)
	}
}

func TestMakeAndPut(t *testing.T) {
	check(t, []api.Patch{read("patch a", "make x", "put a.1 - one", "put a.1 a.2 ", "put a.1 - two")},
		"patch a", "file a.1 called x a.1; drops ; touch a",
		"line a.2 of a.1 behind - one; cuts ", "line a.3 of a.1 behind a.2 ; cuts ", "line a.4 of a.1 behind - two; cuts ")
	check(t, []api.Patch{read("patch a", "make x", "make x", "put a.2 - ~!")},
		"patch a", "file a.1 called x a.1; drops ; touch a", "file a.2 called x a.2; drops ; touch a",
		"line a.3 of a.2 behind - ~!; cuts ")
	check(t, []api.Patch{read("patch m", "make x", "make y"), read("patch b", "needs m", "put m.1 - one"), read("patch a", "needs b m", "put m.1 b.1 two")},
		"patch a b m", "patch b m", "patch m",
		"file m.1 called x m.1; drops ; touch a b m", "file m.2 called y m.2; drops ; touch m",
		"line a.1 of m.1 behind b.1 two; cuts ", "line b.1 of m.1 behind - one; cuts ")
}

func TestTag(t *testing.T) {
	check(t, []api.Patch{read("tag t")}, "tag t")
	check(t, []api.Patch{read("patch a", "make x"), read("tag t", "needs a"), read("patch b", "needs t", "make y")},
		"patch a", "patch b t", "tag t a", "file a.1 called x a.1; drops ; touch a", "file b.1 called y b.1; drops ; touch b")
}

func TestNames(t *testing.T) {
	check(t, []api.Patch{
		read("patch m", "make x"), read("patch z", "needs m", "name m.1 w", "name m.1 v"), read("patch b", "needs m z", "name m.1 x"), read("patch a", "needs m", "make q", "name a.1 r", "name m.1 y"),
	}, "patch a m", "patch b m z", "patch m", "patch z m",
		"file a.1 called q a.1 r a.2; drops ; touch a",
		"file m.1 called y a.3 x b.1 x m.1 w z.1 v z.2; drops ; touch a b m z")
}

// TestDrops: who drops a file has not touched it; what comes for one that was dropped comes nevertheless.
func TestDrops(t *testing.T) {
	check(t, []api.Patch{
		read("patch m", "make x", "put m.1 - one"), read("patch z", "needs m", "drop m.1", "drop m.1"), read("patch b", "needs m", "drop m.1"),
		read("patch c", "needs m z", "put m.1 m.2 more", "name m.1 w", "cut m.1 m.2"), read("patch d", "make y", "drop d.1"),
	}, "patch b m", "patch c m z", "patch d", "patch m", "patch z m",
		"file d.1 called y d.1; drops d; touch d", "file m.1 called w c.2 x m.1; drops b z; touch c m",
		"line c.1 of m.1 behind m.2 more; cuts ", "line m.2 of m.1 behind - one; cuts c")
}

// TestCuts: of several, each once, rising; who cuts touches, though it puts nothing.
func TestCuts(t *testing.T) {
	check(t, []api.Patch{
		read("patch m", "make x", "put m.1 - one", "put m.1 m.2 two", "cut m.1 m.3"), read("patch z", "needs m", "cut m.1 m.2", "cut m.1 m.2", "cut m.1 m.3"),
		read("patch b", "needs m", "cut m.1 m.2"), read("patch c", "needs m z", "put m.1 m.2 three", "cut m.1 c.1", "cut m.1 m.2"),
	}, "patch b m", "patch c m z", "patch m", "patch z m", "file m.1 called x m.1; drops ; touch b c m z",
		"line c.1 of m.1 behind m.2 three; cuts c", "line m.2 of m.1 behind - one; cuts b c z", "line m.3 of m.1 behind m.2 two; cuts m z")
}

// TestOrderOfIDs: by the patch, then by N as a number.
func TestOrderOfIDs(t *testing.T) {
	l := []string{"patch b", "make x"}
	want := []string{"patch 9", "patch b", "file 9.1 called x 9.1; drops ; touch 9", "file b.1 called x b.1; drops ; touch b"}
	for n := 2; n <= api.MaxChanges; n++ {
		l = append(l, "put b.1 - "+strconv.Itoa(n))
		want = append(want, "line b."+strconv.Itoa(n)+" of b.1 behind - "+strconv.Itoa(n)+"; cuts ")
	}
	want = slices.Insert(want, 4, "line 9.2 of 9.1 behind - ; cuts ")
	check(t, []api.Patch{read(l...), read("patch 9", "make x", "put 9.1 - ")}, want...)
}

// P11.1: errors of Add

func base() []api.Patch {
	return []api.Patch{
		read("patch a", "make x", "put a.1 - one", "make y", "put a.3 - else"),
		read("patch b", "needs a", "put a.1 a.2 two", "drop a.3"),
		read("tag t", "needs b"),
	}
}

func TestAddWhatMayNotBe(t *testing.T) {
	f := come(base()...)
	for _, p := range []api.Patch{
		{},
		{Name: "c"},
		{Name: "C", Changes: []api.Change{{Kind: api.Make, Text: "x"}}},
		{Name: "c", Tag: true, Needs: []string{"b", "a"}},
		{Name: "c", Changes: []api.Change{{Kind: api.Drop, File: api.ID{Patch: "a", N: 1}}}},
		{Name: "c", Changes: []api.Change{{Kind: 6, Text: "x"}}},
		{Name: "a"},
		{Name: "c", Needs: []string{"q"}, Changes: []api.Change{{Kind: api.Make, Text: "?"}}},
	} {
		checkAddError(t, api.ErrArg, f, p)
	}
}

func TestAddOneThatIsThere(t *testing.T) {
	f := come(base()...)
	for _, p := range base() {
		checkAddError(t, api.ErrThere, f, p)
	}
	checkAddError(t, api.ErrThere, f, read("patch a", "make q"))
	checkAddError(t, api.ErrThere, f, read("tag a", "needs q"))
	checkAddError(t, api.ErrThere, f, read("patch t", "needs a", "put a.1 a.3 one"))
}

func TestAddWithoutItsNeeds(t *testing.T) {
	f := come(base()...)
	checkAddError(t, api.ErrNeed, f, read("tag u", "needs q"))
	checkAddError(t, api.ErrNeed, f, read("tag u", "needs a q"))
	checkAddError(t, api.ErrNeed, f, read("tag u", "needs 0 a"))
	checkAddError(t, api.ErrNeed, f, read("patch u", "needs a q", "drop a.2"))
	checkAddError(t, api.ErrNeed, api.Facts{}, read("tag u", "needs a"))
}

func TestAddWhatNamesNothing(t *testing.T) {
	f := come(base()...)
	for _, change := range []string{
		"name a.2 x", "name a.5 x", "drop a.4", "drop b.2", "drop t.1", "put a.2 - x", "put b.1 - x", "put a.40 - x", // no file
		"put a.1 a.1 x", "put a.1 a.3 x", "put a.1 a.5 x", "put a.1 b.2 x", "put a.1 t.1 x", "cut a.1 a.3", "cut a.1 a.40", // no line
		"put a.1 a.4 x", "cut a.1 a.4", "put a.3 a.2 x", "cut a.3 b.1", "put a.2 a.2 x", // a line of another file
		"put c.1 a.2 x", "cut c.1 a.2",
	} {
		checkAddError(t, api.ErrArg, f, read("patch c", "needs a b t", "make x", change))
		checkAddError(t, api.ErrArg, f, read("patch c", "needs a b t", "make x", "put a.1 - x", change, "put a.1 a.2 x"))
	}
	for _, change := range []string{"name a.3 x", "drop a.1", "put a.1 a.2 x", "put a.1 b.1 x", "cut a.3 a.4", "put c.1 c.2 x", "cut c.1 c.2"} {
		if _, e := Add(f, read("patch c", "needs a b t", "make x", "put c.1 - x", change)); e != api.OK {
			t.Errorf("Add of %q: %d", change, e)
		}
	}
}

// tags is so many, each for itself.
func tags(count int) []api.Patch {
	var l []api.Patch
	for n := range count {
		l = append(l, read("tag "+strconv.Itoa(10+n)))
	}
	return l
}

func TestAddMoreThanMayBe(t *testing.T) {
	f := come(tags(api.MaxPatches)...)
	if len(f.Heads) != api.MaxPatches {
		t.Fatalf("%d heads", len(f.Heads))
	}
	checkAddError(t, api.ErrLimit, f, read("tag u"))
	checkAddError(t, api.ErrLimit, f, read("tag u", "needs q"))
	checkAddError(t, api.ErrLimit, f, read("patch u", "needs 10", "drop 10.1"))
	checkAddError(t, api.ErrThere, f, read("tag 10"))
	checkAddError(t, api.ErrArg, f, api.Patch{Name: "u"})
	if _, e := Add(come(tags(api.MaxPatches-1)...), read("tag u")); e != api.OK {
		t.Errorf("the last one that may be: %d", e)
	}
}

// P11.1: errors of Of

func TestOfOneNameTwice(t *testing.T) {
	a := read("patch a", "make x")
	checkOfError(t, api.ErrThere, a, a)
	checkOfError(t, api.ErrThere, a, read("tag a"))
	checkOfError(t, api.ErrThere, read("tag b", "needs q"), a, a)
	checkOfError(t, api.ErrThere, api.Patch{Name: "?"}, read("tag b"), api.Patch{Name: "?"})
	checkOfError(t, api.ErrThere, append(tags(40), a, a)...)
}

func TestOfWithoutAnOrder(t *testing.T) {
	a := read("patch a", "make x")
	checkOfError(t, api.ErrNeed, a, read("tag b", "needs a q"))
	checkOfError(t, api.ErrNeed, read("tag b", "needs c"), a, read("tag c", "needs b"))
	checkOfError(t, api.ErrNeed, read("tag b", "needs q"), api.Patch{Name: "?"})
	checkOfError(t, api.ErrNeed, api.Patch{Name: "b", Tag: true, Needs: []string{"b"}})
	checkOfError(t, api.ErrNeed, append(tags(40), read("tag b", "needs q"))...)
}

// TestOfFirstOtherError: by needs.Order, of patches that may not be, or are too many.
func TestOfFirstOtherError(t *testing.T) {
	checkOfError(t, api.ErrArg, api.Patch{Name: "a"})
	checkOfError(t, api.ErrArg, read("patch a", "make x"), read("patch b", "needs a", "drop a.2"), read("tag c", "needs b"))
	checkOfError(t, api.ErrLimit, tags(api.MaxPatches+1)...)
	checkOfError(t, api.ErrLimit, append(tags(api.MaxPatches), read("tag a"), api.Patch{Name: "b"})...)
	checkOfError(t, api.ErrArg, append(tags(api.MaxPatches), api.Patch{Name: "a"}, read("tag b"))...)
	checkOfError(t, api.ErrArg, append(tags(40), api.Patch{Name: "0"})...)
	checkOfError(t, api.ErrArg, append(tags(40), api.Patch{Name: "z", Tag: true}, api.Patch{Name: "0", Needs: []string{"10"}})...)
}

// R4: memory

// deepest shares no memory with what is handed in, nor do its lists with one another.
func deepest(f api.Facts, l []api.Patch) (api.Facts, []api.Patch) {
	l = slices.Clone(l)
	for i := range l {
		l[i].Needs, l[i].Changes = slices.Clone(l[i].Needs), slices.Clone(l[i].Changes)
	}
	return deep(f), l
}

// spoil changes all that is in f, also behind the lengths of its lists.
func spoil(f api.Facts) {
	for _, h := range f.Heads[:cap(f.Heads)] {
		spoilTexts(h.Needs)
	}
	for _, file := range f.Files[:cap(f.Files)] {
		spoilTexts(file.Drops, file.Touch)
		clear(file.Names[:cap(file.Names)])
	}
	for _, line := range f.Lines[:cap(f.Lines)] {
		spoilTexts(line.Cuts)
	}
	clear(f.Heads[:cap(f.Heads)])
	clear(f.Files[:cap(f.Files)])
	clear(f.Lines[:cap(f.Lines)])
}

func spoilTexts(l ...[]string) {
	for _, texts := range l {
		clear(texts[:cap(texts)])
	}
}

func TestMemory(t *testing.T) {
	l := append(base(), read("patch c", "needs a b", "cut a.1 a.2", "cut a.1 b.1", "name a.1 w", "drop a.1", "put a.1 b.1 x"))
	p := read("patch d", "needs a b c", "cut a.1 a.2", "name a.1 v", "drop a.1", "make z", "put d.4 - x", "put a.1 a.2 x", "cut a.1 c.5")
	f := come(l...)
	keptFacts, kept := deepest(f, append(l, p))
	more, e := Add(f, p)
	if e != api.OK {
		t.Fatal(e)
	}
	want := told(more)
	spoil(more)
	if !reflect.DeepEqual(f, keptFacts) || !reflect.DeepEqual(append(l, p), kept) {
		t.Errorf("what was handed in is changed: %v, %v", f, l)
	}
	again, _ := Add(f, p)
	spoil(f)
	if got := told(again); !slices.Equal(got, want) {
		t.Errorf("what was handed out hangs on what was handed in: %q, not %q", got, want)
	}
	whole := come(append(l, p)...)
	for _, p := range append(l, p) {
		spoilTexts(p.Needs)
		clear(p.Changes)
	}
	if got := told(whole); !slices.Equal(got, want) {
		t.Errorf("what was handed out hangs on the patches: %q, not %q", got, want)
	}
}

// TestMemoryBehindTheLength: it is neither read nor written.
func TestMemoryBehindTheLength(t *testing.T) {
	f := come(base()...)
	f.Files = append(f.Files, api.FileFact{ID: api.ID{Patch: "a", N: 2}}, api.FileFact{ID: api.ID{Patch: "a", N: 4}})
	f.Lines = append(f.Lines, api.LineFact{ID: api.ID{Patch: "a", N: 5}, File: api.ID{Patch: "a", N: 1}}, api.LineFact{})
	f.Heads = append(f.Heads, api.Head{Name: "q"}, api.Head{Name: "z"})
	part := api.Facts{Heads: f.Heads[:3], Files: f.Files[:2], Lines: f.Lines[:3]}
	kept := deep(f)
	checkAddError(t, api.ErrNeed, part, read("tag u", "needs q"))
	checkAddError(t, api.ErrArg, part, read("patch u", "needs a", "name a.2 x"))
	checkAddError(t, api.ErrArg, part, read("patch u", "needs a", "cut a.1 a.5"))
	if _, e := Add(part, read("patch z", "needs a", "make x", "put a.1 a.2 x")); e != api.OK {
		t.Error(e)
	}
	if !reflect.DeepEqual(f, kept) {
		t.Errorf("what is behind the length is changed: %v", f)
	}
}

// R1: facts that no patches come to are out of question, but the calls end.

func TestAddToOddFacts(t *testing.T) {
	own := api.ID{Patch: "c", N: 1}
	for _, f := range []api.Facts{
		{Files: []api.FileFact{{ID: own}, {ID: own}, {}}, Lines: []api.LineFact{{ID: own}, {}, {ID: api.ID{Patch: "c", N: 2}}}},
		{Heads: []api.Head{{Name: "b"}, {Name: "a"}, {Name: "a"}}},
		{Lines: []api.LineFact{{ID: api.ID{Patch: "a", N: 2}, File: api.ID{Patch: "a", N: 1}}}, Heads: []api.Head{{Name: "a"}}},
	} {
		for _, p := range append(base(), read("patch c", "make x", "put c.1 - x", "cut c.1 c.2", "drop c.1", "name c.1 y"), read("patch d", "needs a", "cut a.1 a.2")) {
			Add(f, p)
		}
	}
}
