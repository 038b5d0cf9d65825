package needs

import (
	"math/rand"
	"slices"
	"strings"
	"testing"

	"florilegium/api"
)

// What the chapter's words say, one by one, without regard to how long it takes: what the calls are held against.

func names(l []api.Head) []string {
	var out []string
	for _, h := range l {
		out = append(out, h.Name)
	}
	return out
}

func hasTwice(l []string) bool {
	rising := slices.Sorted(slices.Values(l))
	return len(slices.Compact(rising)) < len(l)
}

func allIn(l, of []string) bool {
	for _, s := range l {
		if !slices.Contains(of, s) {
			return false
		}
	}
	return true
}

func plainOrder(l []api.Head) ([]string, bool) {
	if hasTwice(names(l)) {
		return nil, false
	}
	var out []string
	for range l {
		var ready []string
		for _, h := range l {
			if !slices.Contains(out, h.Name) && allIn(h.Needs, out) {
				ready = append(ready, h.Name)
			}
		}
		if len(ready) == 0 {
			return nil, false
		}
		out = append(out, slices.Min(ready))
	}
	return out, true
}

func plainClosed(l []api.Head) bool {
	for _, h := range l {
		if !allIn(h.Needs, names(l)) {
			return false
		}
	}
	_, ok := plainOrder(l)
	return ok && !hasTwice(names(l))
}

// plainNeeds tells whether one of l, named a, needs b in so many steps or fewer.
func plainNeeds(l []api.Head, a, b string, steps int) bool {
	if steps == 0 {
		return false
	}
	for _, h := range l {
		if h.Name != a {
			continue
		}
		for _, need := range h.Needs {
			if need == b || plainNeeds(l, need, b, steps-1) {
				return true
			}
		}
	}
	return false
}

func plainAll(l []api.Head, name string) []string {
	var out []string
	for _, other := range names(l) {
		if other != name && plainNeeds(l, name, other, len(l)) {
			out = append(out, other)
		}
	}
	slices.Sort(out)
	return out
}

func plainApart(l []api.Head, a, b string) bool {
	return allIn([]string{a, b}, names(l)) && a != b && !slices.Contains(plainAll(l, a), b) && !slices.Contains(plainAll(l, b), a)
}

func plainTops(l []api.Head) []string {
	var out []string
	for _, h := range l {
		if !slices.ContainsFunc(l, func(other api.Head) bool { return slices.Contains(other.Needs, h.Name) }) {
			out = append(out, h.Name)
		}
	}
	slices.Sort(out)
	return out
}

// checkOrderAndClosed holds for whatever heads.
func checkOrderAndClosed(t *testing.T, l []api.Head) {
	t.Helper()
	want, wantOK := plainOrder(l)
	if got, ok := Order(l); !slices.Equal(got, want) || ok != wantOK {
		t.Fatalf("Order of %v: %q, %v, not %q, %v", l, got, ok, want, wantOK)
	}
	if got := Closed(l); got != plainClosed(l) {
		t.Fatalf("Closed of %v: %v", l, got)
	}
}

// checkOthers holds for heads with unlike names alone.
func checkOthers(t *testing.T, l []api.Head) {
	t.Helper()
	if got, want := Tops(l), plainTops(l); !slices.Equal(got, want) {
		t.Fatalf("Tops of %v: %q, not %q", l, got, want)
	}
	asked := append(names(l), "none", "")
	for _, a := range asked {
		if got, want := All(l, a), plainAll(l, a); !slices.Equal(got, want) {
			t.Fatalf("All of %q in %v: %q, not %q", a, l, got, want)
		}
		for _, b := range asked {
			if got, want := Apart(l, a, b), plainApart(l, a, b); got != want {
				t.Fatalf("Apart of %q and %q in %v: %v", a, b, l, got)
			}
		}
	}
}

// eachWith calls look with heads of these names, that have as Needs each choice of what may be needed.
func eachWith(called, needed string, look func(l []api.Head)) {
	choices := 1 << len(needed)
	count := 1
	for range len(called) {
		count *= choices
	}
	for n := range count {
		var l []api.Head
		for _, name := range called {
			l = append(l, api.Head{Name: string(name), Needs: chosen(needed, n%choices)})
			n /= choices
		}
		look(l)
	}
}

// chosen is the names of which the binary digit is set.
func chosen(from string, digits int) []string {
	var out []string
	for i, name := range from {
		if digits>>i&1 == 1 {
			out = append(out, string(name))
		}
	}
	return out
}

// P9.1: each of the calls, on every small list of heads

func TestEveryThreeHeads(t *testing.T) {
	eachWith("abc", "abcx", func(l []api.Head) {
		inEveryOrder(l, func(l []api.Head) {
			checkOrderAndClosed(t, l)
			checkOthers(t, l)
		})
	})
}

func TestEveryFourHeads(t *testing.T) {
	eachWith("cadb", "abcd", func(l []api.Head) {
		checkOrderAndClosed(t, l)
		if Closed(l) {
			checkOthers(t, l)
		}
	})
}

func TestEveryHeadsOfOneName(t *testing.T) {
	for _, called := range []string{"aa", "aba", "aab", "bba", "aaa"} {
		eachWith(called, "abx", func(l []api.Head) { checkOrderAndClosed(t, l) })
	}
}

// P9.2: what closed parts of closed heads have

// checkParts asks of every part of l: of those that are closed the Order is that of l, with the others left out.
func checkParts(t *testing.T, l []api.Head) (closed int) {
	t.Helper()
	whole, ok := Order(l)
	if !ok {
		t.Fatalf("no Order of %v", l)
	}
	for digits := range 1 << len(l) {
		var part []api.Head
		for i, h := range l {
			if digits>>i&1 == 1 {
				part = append(part, h)
			}
		}
		if Closed(part) != plainClosed(part) {
			t.Fatalf("Closed of %v: %v", part, Closed(part))
		}
		if !Closed(part) {
			continue
		}
		closed++
		want := slices.DeleteFunc(slices.Clone(whole), func(name string) bool { return !slices.Contains(names(part), name) })
		if got, ok := Order(part); !slices.Equal(got, want) || !ok {
			t.Fatalf("Order of %v, a part of %v: %q, %v, not %q", part, l, got, ok, want)
		}
	}
	return closed
}

func TestPartsOfEveryFourHeads(t *testing.T) {
	graphs, parts := 0, 0
	eachWith("dbac", "abcd", func(l []api.Head) {
		if Closed(l) {
			graphs++
			parts += checkParts(t, l)
		}
	})
	// so many ways there are to need without a round among four; each has nothing and itself as closed parts
	if graphs != 543 || parts < 2*graphs {
		t.Errorf("%d closed lists, %d closed parts", graphs, parts)
	}
}

func TestPartsOfGreaterOnes(t *testing.T) {
	for _, l := range [][]api.Head{
		heads("a", "b", "c", "d", "e", "f", "g", "h"),
		heads("a b", "b c", "c d", "d e", "e f", "f g", "g"),
		heads("a z", "b y", "c x", "x", "y", "z", "m a b c"),
		heads("a m", "m", "x", "y", "c x m", "b c", "z"),
		heads("k z", "l", "m", "z m", "a k l", "b z z", "c l b a"),
	} {
		inTurn := slices.Clone(l)
		slices.Reverse(inTurn)
		if checkParts(t, l) != checkParts(t, inTurn) {
			t.Errorf("%v has other closed parts when it is turned round", l)
		}
	}
}

// by chance, but with one seed: heads without a round, whose names say nothing about who needs whom.
func anyClosed(chance *rand.Rand, count int) []api.Head {
	signs := strings.Split("abcdefghijklmnopqrstuvwxyz0123456789", "")
	chance.Shuffle(len(signs), func(i, j int) { signs[i], signs[j] = signs[j], signs[i] })
	var l []api.Head
	for n := range count {
		var needs []string
		for range chance.Intn(3) {
			if n > 0 {
				needs = append(needs, l[chance.Intn(n)].Name)
			}
		}
		l = append(l, api.Head{Name: signs[n], Needs: needs})
	}
	return l
}

func TestAnyHeads(t *testing.T) {
	chance := rand.New(rand.NewSource(9))
	for n := range 300 {
		l := anyClosed(chance, n%10)
		chance.Shuffle(len(l), func(i, j int) { l[i], l[j] = l[j], l[i] })
		checkOrderAndClosed(t, l)
		checkOthers(t, l)
		checkParts(t, l)
	}
}

// TestOrderHangsOnTheHeadsAlone: however often it is asked, and however the list stands.
func TestOrderHangsOnTheHeadsAlone(t *testing.T) {
	chance := rand.New(rand.NewSource(2))
	l := anyClosed(chance, api.MaxPatches)
	want, _ := Order(l)
	all, tops := All(l, l[len(l)-1].Name), Tops(l)
	last := l[len(l)-1].Name
	for range 100 {
		chance.Shuffle(len(l), func(i, j int) { l[i], l[j] = l[j], l[i] })
		if got, ok := Order(l); !slices.Equal(got, want) || !ok {
			t.Fatalf("Order of %v: %q, %v, not %q", l, got, ok, want)
		}
		if got := All(l, last); !slices.Equal(got, all) {
			t.Fatalf("All of %q in %v: %q, not %q", last, l, got, all)
		}
		if got := Tops(l); !slices.Equal(got, tops) {
			t.Fatalf("Tops of %v: %q, not %q", l, got, tops)
		}
	}
}
