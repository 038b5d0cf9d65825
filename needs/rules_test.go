package needs

import (
	"reflect"
	"slices"
	"strconv"
	"testing"

	"florilegium/api"
)

// samples are lists of heads of each kind.
func samples() [][]api.Head {
	return [][]api.Head{
		nil,
		heads("a"),
		heads("d b", "c a b", "a", "b", "e c", "z"),
		heads("z y x", "y b a", "a", "x y", "b"),
		heads("a b", "b c", "c a", "d a", "e"),
		heads("a x", "b a"),
		heads("a", "b", "a b"),
		heads("a a", "a a"),
	}
}

// deep shares no memory with l.
func deep(l []api.Head) []api.Head {
	out := slices.Clone(l)
	for i := range out {
		out[i].Needs = slices.Clone(out[i].Needs)
	}
	return out
}

// answers is what all the calls answer about l.
func answers(l []api.Head) []any {
	order, ok := Order(l)
	out := []any{Closed(l), order, ok, Tops(l)}
	for _, a := range []string{"a", "b", "c", "x", ""} {
		out = append(out, All(l, a), Apart(l, a, "b"), Apart(l, "d", a))
	}
	return out
}

// R4: memory

func TestHeadsAreNotChanged(t *testing.T) {
	for _, l := range samples() {
		kept := deep(l)
		answers(l)
		if !reflect.DeepEqual(l, kept) {
			t.Errorf("%v has become %v", kept, l)
		}
	}
}

// TestWhatIsBehindTheLength: it is neither read nor written, in the list and in Needs.
func TestWhatIsBehindTheLength(t *testing.T) {
	for _, l := range samples() {
		whole := append(deep(l), heads("y a", "a b", "c c")...)
		for i := range l {
			whole[i].Needs = append(whole[i].Needs, "a", "b", "zz")[:len(l[i].Needs)]
		}
		kept := deep(whole)
		if got, want := answers(whole[:len(l)]), answers(l); !reflect.DeepEqual(got, want) {
			t.Errorf("of %v, with more behind it: %v, not %v", l, got, want)
		}
		for i := range whole {
			needs := whole[i].Needs
			if i < len(l) && !slices.Equal(needs[len(needs):len(needs)+3], []string{"a", "b", "zz"}) {
				t.Errorf("of %v: behind the Needs of %q stands %q", l, l[i].Name, needs[:len(needs)+3])
			}
		}
		if !reflect.DeepEqual(whole, kept) {
			t.Errorf("of %v: what is behind it is changed: %v", l, whole)
		}
	}
}

// TestAnswersAreNewMemory: they may be changed, and grown, without any other answer, or a head, being changed.
func TestAnswersAreNewMemory(t *testing.T) {
	for _, l := range samples() {
		kept, want := deep(l), answers(l)
		for _, answer := range answers(l) {
			if list, ok := answer.([]string); ok {
				list = list[:cap(list)]
				for i := range list {
					list[i] = "changed"
				}
			}
		}
		if !reflect.DeepEqual(l, kept) {
			t.Errorf("%v has become %v", kept, l)
		}
		if got := answers(l); !reflect.DeepEqual(got, want) {
			t.Errorf("of %v: %v, not %v", l, got, want)
		}
	}
}

// TestHeadsAreNotKept: what is answered of others later does not hang on them.
func TestHeadsAreNotKept(t *testing.T) {
	for _, first := range samples() {
		for _, l := range samples() {
			want := answers(deep(l))
			before := deep(first)
			answers(before)
			for i := range before {
				before[i] = api.Head{Name: "a", Needs: []string{"a"}}
			}
			if got := answers(l); !reflect.DeepEqual(got, want) {
				t.Errorf("of %v, behind %v: %v, not %v", l, first, got, want)
			}
		}
	}
}

// TestNilAndEmpty: they are the same.
func TestNilAndEmpty(t *testing.T) {
	l := []api.Head{{Name: "b", Needs: []string{}}, {Name: "a"}}
	checkOrder(t, l, "a b")
	checkTops(t, l, "a b")
	checkAll(t, l, "b", "")
	checkApart(t, l, "a", "b", true)
}

// R1: every call ends

// row is so many heads, each of which needs the one ahead of it, and the first one those that are given.
func row(count int, first ...string) []api.Head {
	l := []api.Head{{Name: "0", Needs: first}}
	for n := 1; n < count; n++ {
		l = append(l, api.Head{Name: strconv.Itoa(n), Needs: []string{strconv.Itoa(n - 1)}})
	}
	return l
}

const many = 100_000

func TestALongRow(t *testing.T) {
	l := row(many)
	last := strconv.Itoa(many - 1)
	for range 2 {
		got, ok := Order(l)
		if !ok || !Closed(l) || len(got) != many {
			t.Fatalf("Order of a long row: %d, %v", len(got), ok)
		}
		for n, name := range got {
			if name != strconv.Itoa(n) {
				t.Fatalf("%q stands at %d", name, n)
			}
		}
		if got := All(l, last); len(got) != many-1 || !slices.IsSorted(got) {
			t.Errorf("All of a long row: %d", len(got))
		}
		if Apart(l, "0", last) || !slices.Equal(Tops(l), []string{last}) {
			t.Errorf("a long row: %q", Tops(l))
		}
		slices.Reverse(l)
	}
}

func TestALongRound(t *testing.T) {
	last := strconv.Itoa(many - 1)
	l := row(many, last)
	if got, ok := Order(l); ok || len(got) != 0 || Closed(l) || len(Tops(l)) != 0 {
		t.Errorf("a long round: %d, %v", len(got), ok)
	}
	if got := All(l, "7"); len(got) != many-1 || slices.Contains(got, "7") {
		t.Errorf("All of a long round: %d", len(got))
	}
	if Apart(l, "7", last) {
		t.Errorf("two of a long round are apart")
	}
}

// TestManyWays: two of each step need both of the one ahead, so that the ways double with each step.
func TestManyWays(t *testing.T) {
	l := heads("a0", "b0")
	for n := 1; n < 200; n++ {
		below, here := strconv.Itoa(n-1), strconv.Itoa(n)
		l = append(l, heads("a"+here+" a"+below+" b"+below, "b"+here+" a"+below+" b"+below)...)
	}
	if got, ok := Order(l); !ok || len(got) != len(l) {
		t.Errorf("Order by many ways: %d, %v", len(got), ok)
	}
	if got := All(l, "a199"); len(got) != len(l)-2 {
		t.Errorf("All by many ways: %d", len(got))
	}
	if !Apart(l, "a199", "b199") || Apart(l, "a199", "b0") || !slices.Equal(Tops(l), []string{"a199", "b199"}) {
		t.Errorf("many ways: %q", Tops(l))
	}
}

func TestManyBesideOneAnother(t *testing.T) {
	l := heads("base")
	for n := range many {
		l = append(l, api.Head{Name: strconv.Itoa(n), Needs: []string{"base"}})
	}
	got, ok := Order(l)
	if !ok || len(got) != len(l) || got[0] != "base" || !slices.IsSorted(got[1:]) {
		t.Errorf("Order of many on one: %d, %v", len(got), ok)
	}
	if len(Tops(l)) != many || len(All(l, "5")) != 1 {
		t.Errorf("many on one: %d tops", len(Tops(l)))
	}
}

// TestHeadsOutOfQuestion: of one name twice only Order and Closed say something; the others end, and answer alike.
func TestHeadsOutOfQuestion(t *testing.T) {
	for _, called := range []string{"aa", "aba", "bab", "aaa"} {
		eachWith(called, "abx", func(l []api.Head) {
			if got := answers(l); !reflect.DeepEqual(got, answers(l)) {
				t.Fatalf("of %v: %v, then %v", l, got, answers(l))
			}
		})
	}
}

func TestOddTexts(t *testing.T) {
	odd := []string{"", " ", "\n", "\x00", "\xff", "A", "-", "é", "a.1", "longer than a name may be"}
	var l []api.Head
	for i, name := range odd {
		l = append(l, api.Head{Name: name, Needs: odd[:i]})
	}
	got, ok := Order(l)
	if !ok || !slices.Equal(got, odd) {
		t.Errorf("Order of odd names: %q, %v", got, ok)
	}
	for i, name := range odd {
		if got := All(l, name); !slices.Equal(got, slices.Sorted(slices.Values(odd[:i]))) {
			t.Errorf("All of %q: %q", name, got)
		}
	}
}
