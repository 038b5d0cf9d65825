package weave

import (
	"reflect"
	"slices"
	"strconv"
	"testing"

	"florilegium/api"
)

// samples are facts of each kind, right ones and others.
func samples() []api.Facts {
	return []api.Facts{
		{},
		of("a", in(x, "a.2 -")),
		of("a, b a c, c a", in(x, "a.3 a.2", "c.1 a.2 b", "a.2 - b c", "b.2 -", "b.1 a.2", "b.3 b.2")),
		of("z, a z", in(x, "z.3 -"), in(y, "z.2 -", "a.1 z.2 a", "a.2 z.2")),
		of("a, a", in(x, "a.2 -", "a.2 -", "a.3 a.2")),
		of("a b, b a", in(x, "a.2 -", "b.2 -", "b.3 a.2")),
		of("a, b q", in(x, "q.2 -", "a.2 -", "b.1 q.2")),
		of("a", in(x, "a.2 a.3", "a.3 a.2", "a.4 a.4", "a.5 -")),
		{Lines: in(x, "a.2 -", "b.1 a.2")},
	}
}

// deep shares no memory with f.
func deep(f api.Facts) api.Facts {
	out := api.Facts{Heads: slices.Clone(f.Heads), Files: slices.Clone(f.Files), Lines: slices.Clone(f.Lines)}
	for i := range out.Heads {
		out.Heads[i].Needs = slices.Clone(out.Heads[i].Needs)
	}
	for i := range out.Lines {
		out.Lines[i].Cuts = slices.Clone(out.Lines[i].Cuts)
	}
	return out
}

// answers is what all the calls answer about f.
func answers(f api.Facts) [][]api.ID {
	var out [][]api.ID
	for _, file := range []api.ID{x, y, none, {Patch: "q", N: -1}} {
		out = append(out, Order(f, file), Shown(f, file))
		for _, line := range []api.ID{none, {Patch: "a", N: 2}, {Patch: "z", N: 2}, {Patch: "a", N: -1}} {
			out = append(out, Behind(f, file, line))
		}
	}
	return out
}

// R4: memory

func TestFactsAreNotChanged(t *testing.T) {
	for _, f := range samples() {
		kept := deep(f)
		answers(f)
		if !reflect.DeepEqual(f, kept) {
			t.Errorf("%v has become %v", kept, f)
		}
	}
}

// TestWhatIsBehindTheLength: it is neither read nor written, in the lists and in those within them.
func TestWhatIsBehindTheLength(t *testing.T) {
	more := of("a y, 0", in(x, "a.9 -", "a.8 a.2", "0.1 a.2"))
	for _, f := range samples() {
		whole := deep(f)
		for i := range whole.Heads {
			whole.Heads[i].Needs = append(whole.Heads[i].Needs, "x", "y")
		}
		for i := range whole.Lines {
			whole.Lines[i].Cuts = append(whole.Lines[i].Cuts, "x", "y")
		}
		whole.Heads = append(whole.Heads, more.Heads...)
		whole.Files = append(whole.Files, more.Files...)
		whole.Lines = append(whole.Lines, more.Lines...)
		kept := deep(whole)

		part := api.Facts{Heads: slices.Clone(whole.Heads), Files: whole.Files[:len(f.Files)], Lines: slices.Clone(whole.Lines)}
		part.Heads, part.Lines = part.Heads[:len(f.Heads)], part.Lines[:len(f.Lines)]
		for i := range part.Heads {
			part.Heads[i].Needs = part.Heads[i].Needs[:len(f.Heads[i].Needs)]
		}
		for i := range part.Lines {
			part.Lines[i].Cuts = part.Lines[i].Cuts[:len(f.Lines[i].Cuts)]
		}
		if got, want := answers(part), answers(f); !reflect.DeepEqual(got, want) {
			t.Errorf("of %v, with more behind it: %v, not %v", f, got, want)
		}
		behind := part.Lines[:cap(part.Lines)][len(f.Lines):len(whole.Lines)]
		if !reflect.DeepEqual(behind, kept.Lines[len(f.Lines):]) || !reflect.DeepEqual(whole, kept) {
			t.Errorf("of %v: what is behind it is changed: %v, %v", f, behind, whole)
		}
	}
}

// TestAnswersAreNewMemory: they may be changed, up to their capacity, without another answer, or the facts, being changed.
func TestAnswersAreNewMemory(t *testing.T) {
	for _, f := range samples() {
		kept, want := deep(f), answers(f)
		for _, list := range answers(f) {
			list = list[:cap(list)]
			for i := range list {
				list[i] = api.ID{Patch: "changed", N: 7}
			}
		}
		got := answers(f)
		if !reflect.DeepEqual(f, kept) || !reflect.DeepEqual(got, want) {
			t.Errorf("%v has become %v; of it: %v, not %v", kept, f, got, want)
		}
		for i, list := range got {
			list = list[:cap(list)]
			for j := range list {
				list[j] = api.ID{Patch: "changed", N: i}
			}
			for j, other := range got {
				if j > i && !slices.Equal(other, want[j]) {
					t.Fatalf("of %v: answers %d and %d are one memory", f, i, j)
				}
			}
		}
	}
}

// TestFactsAreNotKept: what is answered of others later does not hang on them.
func TestFactsAreNotKept(t *testing.T) {
	for _, first := range samples() {
		for _, f := range samples() {
			want := answers(deep(f))
			before := deep(first)
			answers(before)
			for i := range before.Lines {
				before.Lines[i] = api.LineFact{ID: api.ID{Patch: "a", N: 2}, File: x, Cuts: []string{"a"}}
			}
			if got := answers(f); !reflect.DeepEqual(got, want) {
				t.Errorf("of %v, behind %v: %v, not %v", f, first, got, want)
			}
		}
	}
}

// R1: every call ends

const many = 100_000

// row is so many lines, each behind the one ahead of it, the first one behind first.
func row(count int, first api.ID) api.Facts {
	f := api.Facts{Heads: heads("a")}
	for n := range count {
		f.Lines = append(f.Lines, api.LineFact{ID: api.ID{Patch: "a", N: n + 2}, File: x, After: first})
		first = f.Lines[n].ID
	}
	return f
}

func TestALongRow(t *testing.T) {
	f := row(many, none)
	for range 2 {
		got := Order(f, x)
		if len(got) != many || !slices.Equal(got, Shown(f, x)) {
			t.Fatalf("Order of a long row: %d", len(got))
		}
		for n, line := range got {
			if line.N != n+2 {
				t.Fatalf("%v stands at %d", line, n)
			}
		}
		if got := Behind(f, x, api.ID{Patch: "a", N: 7}); told(got) != "a.8" {
			t.Errorf("Behind in a long row: %v", got)
		}
		slices.Reverse(f.Lines)
	}
}

func TestManyBehindOne(t *testing.T) {
	f := row(many, none)
	for i := range f.Lines {
		f.Lines[i].After = none
	}
	got := Order(f, x)
	if len(got) != many || !slices.Equal(got, Behind(f, x, none)) || got[0].N != many+1 || got[many-1].N != 2 {
		t.Errorf("Order of many behind one: %d", len(got))
	}
}

func TestManyHeads(t *testing.T) {
	var f api.Facts
	for n := range many {
		f.Heads = append(f.Heads, api.Head{Name: strconv.Itoa(n)})
		f.Lines = append(f.Lines, api.LineFact{ID: api.ID{Patch: strconv.Itoa(n), N: 1}, File: x})
	}
	if got := Order(f, x); len(got) != many || got[0].Patch != "99999" || got[many-1].Patch != "0" {
		t.Errorf("Order of many heads: %d", len(got))
	}
}

// TestLinesBehindThemselves: in rounds, or of one ID twice. Such facts are out of question, but the calls end.
func TestLinesBehindThemselves(t *testing.T) {
	last := api.ID{Patch: "a", N: many + 1}
	if got := Order(row(many, last), x); len(got) != 0 {
		t.Errorf("Order of a round that nothing leads to: %d", len(got))
	}
	for _, l := range [][]string{
		{"a.2 a.2"},
		{"a.2 a.2", "a.3 -"},
		{"a.2 -", "a.2 a.2"},
		{"a.2 -", "a.3 a.2", "a.2 a.3"},
		{"a.2 -", "a.2 -", "a.3 a.2", "a.3 a.2", "a.2 a.3"},
		{"- -"},
		{"- -", "a.2 -", "- a.2", "- -"},
	} {
		f := of("a", in(x, l...))
		for _, file := range []api.ID{x, y} {
			if got := Order(f, file); len(got) > len(l) || len(Shown(f, file)) > len(got) {
				t.Errorf("Order of %q: %v", l, got)
			}
			for _, line := range []api.ID{none, {Patch: "a", N: 2}, {Patch: "a", N: 3}} {
				if got := Behind(f, file, line); len(got) > len(l) {
					t.Errorf("Behind %v of %q: %v", line, l, got)
				}
			}
		}
	}
}

// TestManyOfOneID: the ways through them double with each step, but each line is gone through once.
func TestManyOfOneID(t *testing.T) {
	f := api.Facts{Heads: heads("a")}
	last := none
	for n := range 200 {
		next := api.ID{Patch: "a", N: n + 2}
		f.Lines = append(f.Lines, api.LineFact{ID: next, File: x, After: last}, api.LineFact{ID: next, File: x, After: last})
		last = next
	}
	if got := Order(f, x); len(got) > len(f.Lines) {
		t.Errorf("Order of lines that are there twice: %d", len(got))
	}
}

// TestFactsOutOfQuestion: heads that have no Order, or are not there. The calls end, and answer alike.
func TestFactsOutOfQuestion(t *testing.T) {
	for _, f := range samples() {
		want := answers(f)
		for range 5 {
			if got := answers(deep(f)); !reflect.DeepEqual(got, want) {
				t.Errorf("of %v: %v, then %v", f, want, got)
			}
		}
	}
	for _, f := range []api.Facts{
		{Lines: in(x, "b.1 -", "a.2 -", "a.3 -", "c.1 -")},
		of("a b, b a", in(x, "b.1 -", "a.2 -", "a.3 -", "c.1 -")),
	} {
		inManyOrders(f, func(f api.Facts) {
			if got := Order(f, x); len(got) != 4 || !slices.Equal(got, Behind(f, x, none)) || told(got) != told(Shown(f, x)) {
				t.Errorf("Order of %v: %v", f, got)
			}
		})
	}
}

func TestOddNumbers(t *testing.T) {
	const most, least = 1<<63 - 1, -1 << 63
	f := of("a")
	for _, n := range []int{0, -1, 1, most, least} {
		f.Lines = append(f.Lines, api.LineFact{ID: api.ID{Patch: "a", N: n}, File: x})
	}
	var got []int
	for _, line := range Order(f, x) {
		got = append(got, line.N)
	}
	if !slices.Equal(got, []int{most, 1, 0, -1, least}) {
		t.Errorf("Order of odd numbers: %d", got)
	}
}
