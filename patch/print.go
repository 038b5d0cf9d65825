package patch

import (
	"strings"

	"florilegium/api"
	"florilegium/id"
)

const (
	blank   = " "
	lineEnd = "\n"
)

// Words by which lines begin.
const (
	patchWord = "patch"
	tagWord   = "tag"
	needsWord = "needs"
	makeWord  = "make"
	nameWord  = "name"
	dropWord  = "drop"
	putWord   = "put"
	cutWord   = "cut"
)

// Print tells p as a text.
func Print(p api.Patch) (string, api.Errno) {
	if e := Check(p); e != api.OK {
		return "", e
	}
	var b strings.Builder
	b.WriteString(firstLine(p))
	b.WriteString(words(needsWord, p.Needs...))
	for _, c := range p.Changes {
		b.WriteString(changeLine(c))
	}
	return b.String(), api.OK
}

func firstLine(p api.Patch) string {
	if p.Tag {
		return words(tagWord, p.Name)
	}
	return words(patchWord, p.Name)
}

func changeLine(c api.Change) string {
	file, line := id.Print(c.File), id.Print(c.Line)
	switch c.Kind {
	case api.Make:
		return words(makeWord, c.Text)
	case api.Name:
		return words(nameWord, file, c.Text)
	case api.Drop:
		return words(dropWord, file)
	case api.Put:
		return words(putWord, file, line, c.Text)
	default:
		return words(cutWord, file, line)
	}
}

// words is a line. An empty word has its blank as well.
func words(first string, l ...string) string {
	var b strings.Builder
	b.WriteString(first)
	for _, word := range l {
		b.WriteString(blank)
		b.WriteString(word)
	}
	b.WriteString(lineEnd)
	return b.String()
}
