package weave

import (
	"math/rand"
	"slices"
	"strings"
	"testing"

	"florilegium/api"
	"florilegium/needs"
)

// What the chapter's words say, one by one, without regard to how long it takes: what the calls are held against.

func plainBehind(f api.Facts, file, line api.ID) []api.ID {
	order, _ := needs.Order(f.Heads)
	slices.Reverse(order)
	var out []api.ID
	for _, name := range order {
		for n := api.MaxChanges; n > 0; n-- {
			mine := api.ID{Patch: name, N: n}
			if slices.ContainsFunc(f.Lines, func(l api.LineFact) bool { return l.ID == mine && l.File == file && l.After == line }) {
				out = append(out, mine)
			}
		}
	}
	return out
}

// plainOrder is what stands behind line, each at once followed by its own.
func plainOrder(f api.Facts, file, line api.ID) []api.ID {
	var out []api.ID
	for _, next := range plainBehind(f, file, line) {
		out = append(out, next)
		out = append(out, plainOrder(f, file, next)...)
	}
	return out
}

func plainShown(f api.Facts, file api.ID) []api.ID {
	var out []api.ID
	for _, next := range plainOrder(f, file, none) {
		if slices.ContainsFunc(f.Lines, func(l api.LineFact) bool { return l.ID == next && len(l.Cuts) == 0 }) {
			out = append(out, next)
		}
	}
	return out
}

func checkPlain(t *testing.T, f api.Facts, file api.ID) {
	t.Helper()
	if got, want := Order(f, file), plainOrder(f, file, none); !slices.Equal(got, want) {
		t.Fatalf("Order of %v: %v, not %v", f, got, want)
	}
	if got, want := Shown(f, file), plainShown(f, file); !slices.Equal(got, want) {
		t.Fatalf("Shown of %v: %v, not %v", f, got, want)
	}
	for _, line := range append(Order(f, file), none, api.ID{Patch: "a", N: 40}) {
		if got, want := Behind(f, file, line), plainBehind(f, file, line); !slices.Equal(got, want) {
			t.Fatalf("Behind %v of %v: %v, not %v", line, f, got, want)
		}
	}
}

// come is what right patches come to, as far as lines go.
func come(l []api.Patch) api.Facts {
	var f api.Facts
	cuts := make(map[api.ID][]string)
	for _, p := range l {
		f.Heads = append(f.Heads, api.Head{Name: p.Name, Needs: p.Needs})
		for i, c := range p.Changes {
			switch c.Kind {
			case api.Put:
				f.Lines = append(f.Lines, api.LineFact{ID: api.ID{Patch: p.Name, N: i + 1}, File: c.File, After: c.Line})
			case api.Cut:
				cuts[c.Line] = append(cuts[c.Line], p.Name)
			}
		}
	}
	for i := range f.Lines {
		f.Lines[i].Cuts = cuts[f.Lines[i].ID]
	}
	return f
}

func headsOf(l []api.Patch) []api.Head { return come(l).Heads }

// anyPatches, by chance, but with one seed: each stands on some of those ahead of it, puts lines behind lines of two
// files that those have, and its own, and cuts some. The names say nothing about who needs whom.
func anyPatches(chance *rand.Rand, count int) []api.Patch {
	signs := strings.Split("abcdefghijklmnopqrstuvwxyz0123456789", "")
	chance.Shuffle(len(signs), func(i, j int) { signs[i], signs[j] = signs[j], signs[i] })
	var l []api.Patch
	for n := range count {
		p := api.Patch{Name: signs[n]}
		for range chance.Intn(3) {
			if n > 0 {
				p.Needs = append(p.Needs, l[chance.Intn(n)].Name)
			}
		}
		slices.Sort(p.Needs)
		p.Needs = slices.Compact(p.Needs)
		all := needs.All(headsOf(append(slices.Clip(l), p)), p.Name)
		known := come(slices.DeleteFunc(slices.Clone(l), func(p api.Patch) bool { return !slices.Contains(all, p.Name) })).Lines
		for i := range 1 + chance.Intn(5) {
			p.Changes = append(p.Changes, anyChange(chance, known))
			if c := p.Changes[i]; c.Kind == api.Put {
				known = append(known, api.LineFact{ID: api.ID{Patch: p.Name, N: i + 1}, File: c.File})
			}
		}
		l = append(l, p)
	}
	return l
}

func anyChange(chance *rand.Rand, known []api.LineFact) api.Change {
	file := []api.ID{x, x, x, y}[chance.Intn(4)]
	if len(known) == 0 || chance.Intn(4) == 0 {
		return api.Change{Kind: api.Put, File: file}
	}
	line := known[chance.Intn(len(known))]
	if chance.Intn(4) == 0 {
		return api.Change{Kind: api.Cut, File: line.File, Line: line.ID}
	}
	return api.Change{Kind: api.Put, File: line.File, Line: line.ID}
}

// P10.1, on whatever patches come to

func TestAnyPatches(t *testing.T) {
	chance := rand.New(rand.NewSource(1))
	for n := range 400 {
		f := come(anyPatches(chance, n%9))
		want := told(Order(f, x))
		for range 3 {
			checkPlain(t, f, x)
			checkPlain(t, f, y)
			if got := told(Order(f, x)); got != want {
				t.Fatalf("Order: %q, then %q", want, got)
			}
			chance.Shuffle(len(f.Heads), func(i, j int) { f.Heads[i], f.Heads[j] = f.Heads[j], f.Heads[i] })
			chance.Shuffle(len(f.Lines), func(i, j int) { f.Lines[i], f.Lines[j] = f.Lines[j], f.Lines[i] })
		}
	}
}

// TestEachLineOnce: all the lines of a file are in its Order, each once.
func TestEachLineOnce(t *testing.T) {
	chance := rand.New(rand.NewSource(3))
	for range 100 {
		f := come(anyPatches(chance, 12))
		for _, file := range []api.ID{x, y} {
			got := Order(f, file)
			for _, l := range f.Lines {
				there := slices.DeleteFunc(slices.Clone(got), func(x api.ID) bool { return x != l.ID })
				if l.File == file && len(there) != 1 || l.File != file && len(there) != 0 {
					t.Fatalf("%v is in the Order of %v %d times", l, file, len(there))
				}
			}
		}
	}
}

// P10.2: a line next to the one that it was put behind

// follows tells whether next stands next to line in the Order (zero: at its head).
func follows(order []api.ID, line, next api.ID) bool {
	at := slices.Index(order, line)
	return (at >= 0 || line == none) && at+1 < len(order) && order[at+1] == next
}

func TestPutBehindAllThatAreThere(t *testing.T) {
	lines := []string{"m.2 -", "m.3 m.2", "m.4 m.3", "k.1 m.2", "k.2 k.1", "p.1 m.2", "p.2 -", "p.3 m.4 k"}
	for _, line := range append(ids(in(x, lines...)), none) {
		for _, late := range []string{"a", "l", "n", "z", "0"} {
			l := in(x, lines...)
			l = append(l, api.LineFact{ID: api.ID{Patch: late, N: 1}, File: x, After: line})
			f := of("m, k m, p m, "+late+" k m p", l)
			if order := Order(f, x); !follows(order, line, api.ID{Patch: late, N: 1}) {
				t.Errorf("%s, put behind %v: %s", late, line, told(order))
			}
		}
	}
}

// TestPutBehindSomeThatAreThere: of one that does not need another one the name counts, so that it need not be next.
func TestPutBehindSomeThatAreThere(t *testing.T) {
	checkUncut(t, of("m, k m, b m", in(x, "m.2 -", "k.1 m.2", "b.1 m.2")), x, "m.2 k.1 b.1")
	checkUncut(t, of("m, k m, b k m", in(x, "m.2 -", "k.1 m.2", "b.1 m.2")), x, "m.2 b.1 k.1")
}

// TestPutBehindWhateverIsThere: of all that a patch puts behind a line the last one stands next to it, if it needs all
// others there, whatever else comes from patches that it does not need.
func TestPutBehindWhateverIsThere(t *testing.T) {
	chance := rand.New(rand.NewSource(5))
	met := 0
	for range 300 {
		f := come(anyPatches(chance, 9))
		for _, head := range f.Heads {
			all := append(needs.All(f.Heads, head.Name), head.Name)
			for _, file := range []api.ID{x, y} {
				for _, line := range append(Order(f, file), none) {
					there := Behind(f, file, line)
					at := slices.IndexFunc(there, func(x api.ID) bool { return x.Patch == head.Name })
					unknown := slices.ContainsFunc(there, func(x api.ID) bool { return !slices.Contains(all, x.Patch) })
					if at < 0 || unknown {
						continue
					}
					met++
					if at != 0 || !follows(Order(f, file), line, there[0]) {
						t.Fatalf("%s put behind %v: %v, and the Order is %s", head.Name, line, there, told(Order(f, file)))
					}
				}
			}
		}
	}
	if met < 1000 {
		t.Errorf("only %d such lines", met)
	}
}

// P10.2: what is Shown of a set stands in the same order in each greater one

// closedParts is each closed part of l.
func closedParts(l []api.Patch) [][]api.Patch {
	var out [][]api.Patch
	for digits := range 1 << len(l) {
		var part []api.Patch
		for i, p := range l {
			if digits>>i&1 == 1 {
				part = append(part, p)
			}
		}
		if needs.Closed(headsOf(part)) {
			out = append(out, part)
		}
	}
	return out
}

// only is those of l that are among those of other.
func only(l, other []api.ID) []api.ID {
	return slices.DeleteFunc(slices.Clone(l), func(x api.ID) bool { return !slices.Contains(other, x) })
}

// checkPart: all that the part shows is in the order of the whole, where some of it may be cut, at the same places.
func checkPart(t *testing.T, part, whole []api.Patch) {
	t.Helper()
	lesser, greater := come(part), come(whole)
	for _, file := range []api.ID{x, y} {
		shown, order := Shown(lesser, file), Order(lesser, file)
		if got := only(Order(greater, file), shown); !slices.Equal(got, shown) {
			t.Fatalf("shown of %v: %s, but of %v: %s", part, told(shown), whole, told(got))
		}
		if got := only(Order(greater, file), order); !slices.Equal(got, order) {
			t.Fatalf("Order of %v: %s, but of %v: %s", part, told(order), whole, told(got))
		}
		still := Shown(greater, file)
		if got, want := only(still, shown), only(shown, still); !slices.Equal(got, want) {
			t.Fatalf("shown of %v: %s, but of %v still: %s", part, told(want), whole, told(got))
		}
	}
}

func TestShownInEachGreaterSet(t *testing.T) {
	chance := rand.New(rand.NewSource(7))
	pairs := 0
	for range 60 {
		whole := anyPatches(chance, 6)
		parts := closedParts(whole)
		for _, part := range parts {
			for _, other := range parts {
				if len(slices.DeleteFunc(slices.Clone(part), func(p api.Patch) bool {
					return slices.ContainsFunc(other, func(q api.Patch) bool { return p.Name == q.Name })
				})) == 0 {
					pairs++
					checkPart(t, part, other)
				}
			}
		}
	}
	if pairs < 1000 {
		t.Errorf("only %d pairs of sets", pairs)
	}
}

// TestShownOfAllThatMayCome: a set of as many as there may be, as it grows patch by patch.
func TestShownOfAllThatMayCome(t *testing.T) {
	chance := rand.New(rand.NewSource(8))
	for range 5 {
		whole := anyPatches(chance, api.MaxPatches)
		for n := range whole {
			checkPart(t, whole[:n], whole)
		}
		checkPlain(t, come(whole), x)
	}
}
