package needs

import (
	"slices"
	"strings"
	"testing"

	"florilegium/api"
)

// heads: each a name, and behind it what it needs.
func heads(l ...string) []api.Head {
	var out []api.Head
	for _, text := range l {
		words := strings.Fields(text)
		out = append(out, api.Head{Name: words[0], Needs: words[1:]})
	}
	return out
}

// inEveryOrder calls look with the same heads in every order of the list.
func inEveryOrder(l []api.Head, look func(l []api.Head)) {
	behind(nil, l, look)
}

func behind(ahead, left []api.Head, look func(l []api.Head)) {
	if len(left) == 0 {
		look(ahead)
	}
	for i := range left {
		behind(append(slices.Clip(ahead), left[i]), slices.Concat(left[:i], left[i+1:]), look)
	}
}

// checkOrder: want is the Order, a blank between each two names. Closed is right where there is one.
func checkOrder(t *testing.T, l []api.Head, want string) {
	t.Helper()
	inEveryOrder(l, func(l []api.Head) {
		got, ok := Order(l)
		if strings.Join(got, " ") != want || len(got) != len(l) || !ok {
			t.Errorf("Order of %v: %q, %v, not %q", l, got, ok, want)
		}
		if !Closed(l) {
			t.Errorf("Closed of %v: false", l)
		}
	})
}

// checkNoOrder: nothing stands beside false.
func checkNoOrder(t *testing.T, l []api.Head) {
	t.Helper()
	inEveryOrder(l, func(l []api.Head) {
		if got, ok := Order(l); ok || len(got) != 0 {
			t.Errorf("Order of %v: %q, %v", l, got, ok)
		}
		if Closed(l) {
			t.Errorf("Closed of %v: true", l)
		}
	})
}

func checkAll(t *testing.T, l []api.Head, name, want string) {
	t.Helper()
	inEveryOrder(l, func(l []api.Head) {
		if got := All(l, name); !slices.Equal(got, strings.Fields(want)) {
			t.Errorf("All of %q in %v: %q, not %q", name, l, got, want)
		}
	})
}

// checkApart: either one may be named first.
func checkApart(t *testing.T, l []api.Head, a, b string, want bool) {
	t.Helper()
	inEveryOrder(l, func(l []api.Head) {
		if Apart(l, a, b) != want || Apart(l, b, a) != want {
			t.Errorf("Apart of %q and %q in %v: %v, %v", a, b, l, Apart(l, a, b), Apart(l, b, a))
		}
	})
}

func checkTops(t *testing.T, l []api.Head, want string) {
	t.Helper()
	inEveryOrder(l, func(l []api.Head) {
		if got := Tops(l); !slices.Equal(got, strings.Fields(want)) {
			t.Errorf("Tops of %v: %q, not %q", l, got, want)
		}
	})
}

// P9.1: Order and Closed, where there is one

func TestOrderOfNothing(t *testing.T) {
	checkOrder(t, nil, "")
	checkOrder(t, []api.Head{}, "")
}

func TestOrderOfOne(t *testing.T) {
	checkOrder(t, heads("a"), "a")
	checkOrder(t, []api.Head{{Name: "a", Tag: true}}, "a")
	checkOrder(t, []api.Head{{Name: "a", Needs: []string{}}}, "a")
}

func TestOrderOfRows(t *testing.T) {
	checkOrder(t, heads("a", "b a"), "a b")
	checkOrder(t, heads("a b", "b"), "b a")
	checkOrder(t, heads("a", "b a", "c b", "d c"), "a b c d")
	checkOrder(t, heads("a b", "b c", "c d", "d"), "d c b a")
	checkOrder(t, heads("a c", "b d", "c b", "d"), "d b c a")
}

// TestOrderTakesTheLeast: of several that are ready at once.
func TestOrderTakesTheLeast(t *testing.T) {
	checkOrder(t, heads("a", "b", "c", "d", "e"), "a b c d e")
	checkOrder(t, heads("b z", "c z", "a z", "z"), "z a b c")
	checkOrder(t, heads("a z", "b", "c", "z"), "b c z a")
	checkOrder(t, heads("a y z", "b y", "y", "z"), "y b z a")
	checkOrder(t, heads("d b", "c a b", "a", "b", "e c"), "a b c d e")
	checkOrder(t, heads("b", "f b", "a f", "c b", "g"), "b c f a g")
}

// TestOrderHoldsNamesByteByByte: digits ahead of letters, the shorter one ahead of what it begins, 10 ahead of 9.
func TestOrderHoldsNamesByteByByte(t *testing.T) {
	checkOrder(t, heads("9", "10", "a", "ab", "b"), "10 9 a ab b")
	checkOrder(t, heads("a", "Z", "aa", "é", "~"), "Z a aa ~ é")
	checkOrder(t, []api.Head{{Name: "\xff"}, {Name: ""}, {Name: "\x00"}, {Name: " "}}, " \x00   \xff")
	checkOrder(t, []api.Head{{Name: "", Needs: []string{"b"}}, {Name: "b"}, {Name: "c", Needs: []string{""}}}, "b  c")
}

// TestOrderOfOneThatIsReadyLate: it goes ahead of those that were ready sooner, and have a greater name.
func TestOrderOfOneThatIsReadyLate(t *testing.T) {
	checkOrder(t, heads("a m", "m", "x", "y"), "m a x y")
	checkOrder(t, heads("a x", "m", "x", "y"), "m x a y")
	checkOrder(t, heads("a y", "m", "x", "y"), "m x y a")
	checkOrder(t, heads("a b", "b y", "x", "y", "z"), "x y b a z")
	checkOrder(t, heads("m", "k z", "z m", "l"), "l m z k")
	checkOrder(t, heads("a c e", "c", "d", "e", "f"), "c d e a f")
}

// TestOrderOfSeveralWays: a head is out once, however many need it, and waits for the last of those that it needs.
func TestOrderOfSeveralWays(t *testing.T) {
	checkOrder(t, heads("a b c", "b d", "c d", "d"), "d b c a")
	checkOrder(t, heads("a b c d", "b c d", "c d", "d"), "d c b a")
	checkOrder(t, heads("a y z", "m", "y", "z"), "m y z a")
}

// TestOrderOfNeedsAsTheyStand: Needs may be there twice, and may fall.
func TestOrderOfNeedsAsTheyStand(t *testing.T) {
	checkOrder(t, heads("a b b", "b"), "b a")
	checkOrder(t, heads("a b b b", "b", "c b a b"), "b a c")
	checkOrder(t, heads("a b c b c", "b", "c"), "b c a")
	checkOrder(t, heads("a d c b", "b", "c", "d"), "b c d a")
	checkOrder(t, heads("a d b c d", "b d d", "c", "d"), "c d b a")
}

// P9.1: Order and Closed, where there is none

func TestNoOrderOfANameThatIsThereTwice(t *testing.T) {
	checkNoOrder(t, heads("a", "a"))
	checkNoOrder(t, heads("a", "a", "a"))
	checkNoOrder(t, heads("a b", "a b", "b"))
	checkNoOrder(t, heads("a", "a b", "b"))
	checkNoOrder(t, heads("a b", "a c", "b", "c"))
	checkNoOrder(t, heads("b", "c b", "b", "d"))
	checkNoOrder(t, heads("z", "a", "z"))
	checkNoOrder(t, heads("a b", "b a", "b"))
	checkNoOrder(t, []api.Head{{}, {}})
	checkNoOrder(t, []api.Head{{Name: "a"}, {Name: "a", Tag: true}})
}

func TestNoOrderOfRounds(t *testing.T) {
	checkNoOrder(t, heads("a a"))
	checkNoOrder(t, heads("a a a"))
	checkNoOrder(t, heads("a b", "b a"))
	checkNoOrder(t, heads("a b", "b c", "c a"))
	checkNoOrder(t, heads("a b", "b c", "c d", "d b"))
	checkNoOrder(t, heads("a", "b", "c c"))
	checkNoOrder(t, []api.Head{{Needs: []string{""}}})
}

// TestNoOrderAboutARound: those ahead of it and beside it could be taken, those behind it could not.
func TestNoOrderAboutARound(t *testing.T) {
	checkNoOrder(t, heads("a", "b b", "c b"))
	checkNoOrder(t, heads("a", "b c a", "c b", "d c", "e d"))
	checkNoOrder(t, heads("a", "m", "x y", "y z", "z x m"))
	checkNoOrder(t, heads("a b", "b a", "y z", "z y"))
}

func TestNoOrderOfNeedsThatAreNotThere(t *testing.T) {
	checkNoOrder(t, heads("a b"))
	checkNoOrder(t, heads("a b", "c"))
	checkNoOrder(t, heads("a", "b a x"))
	checkNoOrder(t, heads("a", "b x a"))
	checkNoOrder(t, heads("a b", "b c", "c x"))
	checkNoOrder(t, heads("a", "b a", "c b", "z A"))
	checkNoOrder(t, []api.Head{{Name: "a", Needs: []string{""}}})
}

// P9.1: All

func TestAllOfANameThatIsNotThere(t *testing.T) {
	checkAll(t, nil, "a", "")
	checkAll(t, nil, "", "")
	checkAll(t, heads("a", "b a"), "c", "")
	checkAll(t, heads("a", "b a"), "", "")
	checkAll(t, heads("a x", "b a x", "c"), "x", "")
	checkAll(t, heads("a", "b a"), "A", "")
}

func TestAllOfOneThatNeedsNothing(t *testing.T) {
	checkAll(t, heads("a"), "a", "")
	checkAll(t, heads("a", "b a", "c b"), "a", "")
	checkAll(t, []api.Head{{Name: "a"}, {}}, "", "")
}

func TestAllThroughOthers(t *testing.T) {
	row := heads("a d", "d b", "b e", "e c", "c")
	checkAll(t, row, "a", "b c d e")
	checkAll(t, row, "d", "b c e")
	checkAll(t, row, "b", "c e")
	checkAll(t, row, "e", "c")
	checkAll(t, row, "c", "")
	l := heads("d b", "c a b", "a", "b", "e c", "z")
	checkAll(t, l, "c", "a b")
	checkAll(t, l, "d", "b")
	checkAll(t, l, "e", "a b c")
	checkAll(t, l, "z", "")
	checkAll(t, []api.Head{{Name: "b", Needs: []string{""}}, {Needs: []string{"a"}}, {Name: "a"}}, "", "a")
}

// TestAllBySeveralWays: each once.
func TestAllBySeveralWays(t *testing.T) {
	checkAll(t, heads("a b c", "b d", "c d", "d"), "a", "b c d")
	checkAll(t, heads("a b c d", "b c d", "c d", "d"), "a", "b c d")
	checkAll(t, heads("d", "c d", "b d c", "a b c", "e a b d"), "e", "a b c d")
	checkAll(t, heads("a b b", "b c c", "c"), "a", "b c")
	checkAll(t, heads("a d c b", "b", "c", "d"), "a", "b c d")
}

// TestAllThroughARound: a name is not among its own.
func TestAllThroughARound(t *testing.T) {
	checkAll(t, heads("a a"), "a", "")
	checkAll(t, heads("a a b", "b"), "a", "b")
	checkAll(t, heads("a b", "b a"), "a", "b")
	checkAll(t, heads("a b", "b a"), "b", "a")
	three := heads("a b", "b c", "c a d", "d", "e a")
	checkAll(t, three, "a", "b c d")
	checkAll(t, three, "b", "a c d")
	checkAll(t, three, "c", "a b d")
	checkAll(t, three, "e", "a b c d")
	checkAll(t, three, "d", "")
	checkAll(t, heads("a b", "b b c", "c"), "a", "b c")
}

// TestAllOfNeedsThatAreNotThere: just those that are in the list are told.
func TestAllOfNeedsThatAreNotThere(t *testing.T) {
	checkAll(t, heads("a b"), "a", "")
	checkAll(t, heads("a b x", "b c y", "c"), "a", "b c")
	checkAll(t, heads("a b", "b c x", "c a"), "a", "b c")
	checkAll(t, heads("a x", "y z", "z"), "a", "")
}

func TestAllRisesByteByByte(t *testing.T) {
	checkAll(t, heads("x b 9 ab 10 a", "9", "10", "a", "ab", "b"), "x", "10 9 a ab b")
}

// P9.1: Apart

func TestApartOfOneAndItself(t *testing.T) {
	checkApart(t, heads("a", "b"), "a", "a", false)
	checkApart(t, heads("a b", "b"), "a", "a", false)
	checkApart(t, heads("a a", "b"), "a", "a", false)
	checkApart(t, []api.Head{{}, {Name: "a"}}, "", "", false)
}

func TestApartOfANameThatIsNotThere(t *testing.T) {
	checkApart(t, nil, "a", "b", false)
	checkApart(t, nil, "a", "a", false)
	checkApart(t, heads("a", "b"), "a", "c", false)
	checkApart(t, heads("a", "b"), "c", "d", false)
	checkApart(t, heads("a", "b"), "a", "", false)
	checkApart(t, heads("a", "b"), "c", "c", false)
	checkApart(t, heads("a x", "b"), "b", "x", false)
	checkApart(t, heads("a x", "b"), "a", "x", false)
}

func TestApart(t *testing.T) {
	l := heads("d b", "c a b", "a", "b", "e c", "z")
	for _, pair := range []string{"a b", "a d", "a z", "b z", "c d", "c z", "d e", "d z", "e z"} {
		checkApart(t, l, pair[:1], pair[2:], true)
	}
	for _, pair := range []string{"a c", "a e", "b c", "b d", "b e", "c e"} {
		checkApart(t, l, pair[:1], pair[2:], false)
	}
	checkApart(t, heads("a x", "b x"), "a", "b", true)
	checkApart(t, heads("a c", "b c", "c"), "a", "b", true)
	checkApart(t, heads("c a b", "a", "b"), "a", "b", true)
	checkApart(t, []api.Head{{}, {Name: "a"}}, "", "a", true)
}

func TestApartInARound(t *testing.T) {
	checkApart(t, heads("a b", "b a"), "a", "b", false)
	l := heads("a b", "b c", "c a", "d a", "e")
	checkApart(t, l, "a", "c", false)
	checkApart(t, l, "c", "d", false)
	checkApart(t, l, "b", "e", true)
	checkApart(t, heads("a a", "b b"), "a", "b", true)
}

// P9.1: Tops

func TestTops(t *testing.T) {
	checkTops(t, nil, "")
	checkTops(t, heads("a"), "a")
	checkTops(t, heads("a", "b a"), "b")
	checkTops(t, heads("a b", "b"), "a")
	checkTops(t, heads("d b", "c a b", "a", "b", "e c", "z"), "d e z")
	checkTops(t, heads("a c", "b c", "c"), "a b")
	checkTops(t, heads("a", "b", "c a b"), "c")
	checkTops(t, heads("x a a", "a b b", "b"), "x")
}

func TestTopsWhereNoneIsNeeded(t *testing.T) {
	checkTops(t, heads("b", "a", "c", "10", "9"), "10 9 a b c")
	checkTops(t, heads("b x", "a y x", "c"), "a b c")
	if got := Tops([]api.Head{{Name: "a"}, {}}); !slices.Equal(got, []string{"", "a"}) {
		t.Errorf("Tops with an empty name: %q", got)
	}
}

func TestTopsWhereAllAreNeeded(t *testing.T) {
	checkTops(t, heads("a b", "b a"), "")
	checkTops(t, heads("a b", "b c", "c a"), "")
	checkTops(t, heads("a a", "b a b"), "")
}

// TestTopsNeededByOneAlone: by any other one, by itself, or by one in a round.
func TestTopsNeededByOneAlone(t *testing.T) {
	checkTops(t, heads("a a"), "")
	checkTops(t, heads("a a", "b"), "b")
	checkTops(t, heads("a a x", "b", "c b"), "c")
	checkTops(t, heads("a b", "b a c", "c", "d b"), "d")
}
