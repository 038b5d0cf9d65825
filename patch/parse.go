package patch

import (
	"strings"

	"florilegium/api"
	"florilegium/id"
)

// wrongLine is the number of a line that may not stand where it stands. A reader panics with it wherever it meets one,
// so that nothing on the way up has to hand it on: caught ends it.
type wrongLine int

// reader goes through the lines of a patch from the first one on.
type reader struct {
	rest  string    // what is behind the line at hand
	line  int       // the number of the line at hand
	patch api.Patch // what the lines ahead of it say
}

// Parse is the patch of which s is Print; else line is the first one that is wrong.
func Parse(s string) (p api.Patch, line int, e api.Errno) {
	r := &reader{rest: s}
	if wrong := caught(r.lines); wrong != 0 {
		return api.Patch{}, int(wrong), api.ErrForm
	}
	return r.patch, 0, api.OK
}

// caught is the line with which work panicked; 0 if it came to its end. Another panic would be a fault of this package:
// it is not hidden.
func caught(work func()) (line wrongLine) {
	defer func() {
		switch met := recover().(type) {
		case nil:
		case wrongLine:
			line = met
		default:
			panic(met)
		}
	}()
	work()
	return 0
}

// need panics with the line at hand unless what its place asks for holds.
func (r *reader) need(holds bool) {
	if !holds {
		panic(wrongLine(r.line))
	}
}

// next is the next line. One that is not ended is wrong; so is one that is missing, of which not even the end is there.
func (r *reader) next() string {
	r.line++
	text, rest, ended := strings.Cut(r.rest, lineEnd)
	r.need(ended)
	r.rest = rest
	return text
}

func (r *reader) lines() {
	r.first(r.next())
	r.needs(r.next())
	least, most := counts(r.patch.Tag)
	for n := 0; n < least || r.rest != ""; n++ {
		text := r.next()
		r.need(n < most)
		c := r.change(text)
		r.need(mayFollow(r.patch, c))
		r.patch.Changes = append(r.patch.Changes, c)
	}
}

func (r *reader) first(text string) {
	word, name, _ := strings.Cut(text, blank)
	r.need(word == patchWord || word == tagWord)
	r.need(id.Right(name))
	r.patch.Name, r.patch.Tag = name, word == tagWord
}

func (r *reader) needs(text string) {
	l := strings.Split(text, blank)
	r.need(l[0] == needsWord && rightNeeds(r.patch.Name, l[1:]))
	r.patch.Needs = l[1:]
}

// change is what a line says; whether it may be said there is mayFollow's to tell.
func (r *reader) change(text string) api.Change {
	word, rest, _ := strings.Cut(text, blank)
	switch word {
	case makeWord:
		return api.Change{Kind: api.Make, Text: rest}
	case nameWord:
		l := r.words(rest, 2)
		return api.Change{Kind: api.Name, File: r.idOf(l[0]), Text: l[1]}
	case dropWord:
		return api.Change{Kind: api.Drop, File: r.idOf(rest)}
	case putWord:
		l := r.words(rest, 3)
		return api.Change{Kind: api.Put, File: r.idOf(l[0]), Line: r.idOf(l[1]), Text: l[2]}
	case cutWord:
		l := r.words(rest, 2)
		return api.Change{Kind: api.Cut, File: r.idOf(l[0]), Line: r.idOf(l[1])}
	}
	panic(wrongLine(r.line))
}

// words is so many of them; the last one is all that is left, blanks too.
func (r *reader) words(text string, count int) []string {
	l := strings.SplitN(text, blank, count)
	r.need(len(l) == count)
	return l
}

func (r *reader) idOf(text string) api.ID {
	x, ok := id.Parse(text)
	r.need(ok)
	return x
}
