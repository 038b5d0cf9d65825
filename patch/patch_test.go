package patch

import (
	"slices"
	"strings"
	"testing"

	"florilegium/api"
)

const (
	longest  = "abcdefgh"                                 // MaxName signs
	fullLine = "0123456789012345678901234567890123456789" // MaxText signs
)

// at is what a patch made at a place.
func at(name string, n int) api.ID { return api.ID{Patch: name, N: n} }

func makes(text string) api.Change { return api.Change{Kind: api.Make, Text: text} }

func names(file api.ID, text string) api.Change {
	return api.Change{Kind: api.Name, File: file, Text: text}
}

func drops(file api.ID) api.Change { return api.Change{Kind: api.Drop, File: file} }

func puts(file, line api.ID, text string) api.Change {
	return api.Change{Kind: api.Put, File: file, Line: line, Text: text}
}

func cuts(file, line api.ID) api.Change { return api.Change{Kind: api.Cut, File: file, Line: line} }

func changed(name, needs string, l ...api.Change) api.Patch {
	return api.Patch{Name: name, Needs: strings.Fields(needs), Changes: l}
}

func tagged(name string, needs ...string) api.Patch {
	return api.Patch{Name: name, Tag: true, Needs: needs}
}

// many is that many changes that may be.
func many(count int) []api.Change { return slices.Repeat([]api.Change{makes("x")}, count) }

// long has a change of each kind, of its own files and lines and of others'.
func long() api.Patch {
	return changed("p", "a b",
		makes("x"),
		puts(at("p", 1), api.ID{}, "one"),
		puts(at("p", 1), at("p", 2), "two words"),
		cuts(at("p", 1), at("p", 2)),
		names(at("p", 1), "y"),
		drops(at("p", 1)),
		puts(at("a", 1), at("a", 2), ""),
		puts(at("a", 1), at("p", 7), " blanks  about "),
		cuts(at("b", 40), at("b", 39)),
		names(at("a", 40), longest),
		drops(at("b", 1)),
	)
}

// longText is how long is told.
const longText = "patch p\n" +
	"needs a b\n" +
	"make x\n" +
	"put p.1 - one\n" +
	"put p.1 p.2 two words\n" +
	"cut p.1 p.2\n" +
	"name p.1 y\n" +
	"drop p.1\n" +
	"put a.1 a.2 \n" +
	"put a.1 p.7  blanks  about \n" +
	"cut b.40 b.39\n" +
	"name a.40 abcdefgh\n" +
	"drop b.1\n"

// copied shares no memory with p.
func copied(p api.Patch) api.Patch {
	p.Needs = append([]string(nil), p.Needs...)
	p.Changes = append([]api.Change(nil), p.Changes...)
	return p
}

// behind is p, whose lists have more in their memory, behind their length; and those lists, whole.
func behind(p api.Patch) (in api.Patch, needs []string, changes []api.Change) {
	needs = slices.Concat(p.Needs, []string{"behind", "p"})
	changes = slices.Concat(p.Changes, []api.Change{makes("behind"), {Kind: 9}})
	in = p
	in.Needs, in.Changes = needs[:len(p.Needs)], changes[:len(p.Changes)]
	return in, needs, changes
}

// samples are patches that may be, and some that may not.
func samples() []api.Patch {
	return []api.Patch{
		{}, tagged("t"), tagged("t", "a", "b"), changed("p", "", makes("x")), long(),
		changed("p", "", many(api.MaxChanges)...), changed("p", "b a", makes("X")), changed("p", "p p"),
	}
}

// P8.2: Same

func checkSame(t *testing.T, a, b api.Patch, want bool) {
	t.Helper()
	if Same(a, b) != want || Same(b, a) != want {
		t.Errorf("Same of %v and %v: %v, %v", a, b, Same(a, b), Same(b, a))
	}
}

func TestSameOfOneAndItsCopy(t *testing.T) {
	for i, a := range samples() {
		for j, b := range samples() {
			checkSame(t, a, copied(b), i == j)
		}
	}
}

// TestSameOfEachField: two part in one field alone.
func TestSameOfEachField(t *testing.T) {
	for name, turn := range map[string]func(p *api.Patch){
		"name":                  func(p *api.Patch) { p.Name = "q" },
		"no name":               func(p *api.Patch) { p.Name = "" },
		"tag":                   func(p *api.Patch) { p.Tag = true },
		"no needs":              func(p *api.Patch) { p.Needs = nil },
		"the first need":        func(p *api.Patch) { p.Needs[0] = "0" },
		"the last need":         func(p *api.Patch) { p.Needs[1] = "c" },
		"a need fewer":          func(p *api.Patch) { p.Needs = p.Needs[:1] },
		"a need more":           func(p *api.Patch) { p.Needs = append(p.Needs, "c") },
		"a need twice":          func(p *api.Patch) { p.Needs = append(p.Needs, "b") },
		"needs turned round":    func(p *api.Patch) { slices.Reverse(p.Needs) },
		"no changes":            func(p *api.Patch) { p.Changes = nil },
		"a change fewer":        func(p *api.Patch) { p.Changes = p.Changes[:10] },
		"the first one missing": func(p *api.Patch) { p.Changes = p.Changes[1:] },
		"a change more":         func(p *api.Patch) { p.Changes = append(p.Changes, makes("z")) },
		"changes turned round":  func(p *api.Patch) { slices.Reverse(p.Changes) },
		"kind":                  func(p *api.Patch) { p.Changes[0].Kind = api.Name },
		"kind of the last":      func(p *api.Patch) { p.Changes[10].Kind = 0 },
		"the file's patch":      func(p *api.Patch) { p.Changes[6].File.Patch = "b" },
		"the file's N":          func(p *api.Patch) { p.Changes[6].File.N = 2 },
		"no file":               func(p *api.Patch) { p.Changes[6].File = api.ID{} },
		"the line's patch":      func(p *api.Patch) { p.Changes[6].Line.Patch = "b" },
		"the line's N":          func(p *api.Patch) { p.Changes[6].Line.N = 3 },
		"no line":               func(p *api.Patch) { p.Changes[6].Line = api.ID{} },
		"text":                  func(p *api.Patch) { p.Changes[1].Text = "One" },
		"a blank more":          func(p *api.Patch) { p.Changes[1].Text = "one " },
		"no text":               func(p *api.Patch) { p.Changes[1].Text = "" },
	} {
		t.Run(name, func(t *testing.T) {
			p := long()
			turn(&p)
			checkSame(t, long(), p, false)
			checkSame(t, p, copied(p), true)
		})
	}
}

func TestSameOfNilAndEmpty(t *testing.T) {
	lists := []api.Patch{{}, {Needs: []string{}}, {Changes: []api.Change{}}, {Needs: []string{}, Changes: []api.Change{}}}
	for _, a := range lists {
		for _, b := range lists {
			checkSame(t, a, b, true)
		}
	}
	checkSame(t, api.Patch{}, api.Patch{Needs: []string{""}}, false)
	checkSame(t, api.Patch{}, api.Patch{Changes: make([]api.Change, 1)}, false)
}

// P8.2: Head

func TestHead(t *testing.T) {
	for _, p := range samples() {
		h := Head(p)
		if h.Name != p.Name || h.Tag != p.Tag || !slices.Equal(h.Needs, p.Needs) {
			t.Errorf("Head of %v: %v", p, h)
		}
	}
	if h := Head(tagged("t", "b", "a", "a")); h.Name != "t" || !h.Tag || !slices.Equal(h.Needs, []string{"b", "a", "a"}) {
		t.Errorf("it is to be told as it is: %v", h)
	}
}

// R4

// TestWhatIsHandedInStays: nor does what lies behind its length count.
func TestWhatIsHandedInStays(t *testing.T) {
	for _, p := range samples() {
		in, needs, changes := behind(p)
		keptNeeds, keptChanges := slices.Clone(needs), slices.Clone(changes)
		text, e := Print(p)
		gotText, gotE := Print(in)
		if gotText != text || gotE != e || Check(in) != Check(p) || !Same(in, p) || !Same(p, in) || !slices.Equal(Head(in).Needs, p.Needs) {
			t.Errorf("%v: what lies behind it is read", p)
		}
		if !slices.Equal(needs, keptNeeds) || !slices.Equal(changes, keptChanges) {
			t.Errorf("%v: changed: %v, %v", p, needs, changes)
		}
	}
}

func TestHeadIsNewMemory(t *testing.T) {
	p := long()
	h := Head(p)
	again := Head(p)
	if h.Needs[0] = "q"; p.Needs[0] != "a" || again.Needs[0] != "a" {
		t.Errorf("changed with the head: %v, %v", p, again)
	}
	if p.Needs[1] = "r"; h.Needs[1] != "b" || again.Needs[1] != "b" {
		t.Errorf("the head changed: %v, %v", h, again)
	}
	in, needs, _ := behind(long())
	if _ = append(Head(in).Needs, "z"); needs[len(in.Needs)] != "behind" {
		t.Error("written behind what was handed in")
	}
}

func TestParsedIsNewMemory(t *testing.T) {
	first, _, _ := Parse(longText)
	second, _, _ := Parse(longText)
	clear(first.Needs)
	clear(first.Changes)
	if !Same(second, long()) {
		t.Errorf("changed with another one: %v", second)
	}
	if third, _, _ := Parse(longText); !Same(third, long()) {
		t.Errorf("another answer: %v", third)
	}
}
