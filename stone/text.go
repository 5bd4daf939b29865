package stone

import (
	"strings"

	"quinaria/api"
	"quinaria/written"
)

// kind is a kind of lines of a book.
type kind int

const (
	stonesKind kind = iota
	markKind
	oldKind
	gapKind
)

// word returns the first word of a line of a kind.
func (k kind) word() string {
	switch k {
	case stonesKind:
		return "stones"
	case markKind:
		return "mark"
	case oldKind:
		return "old"
	}
	return "gap"
}

// part is a line of a book behind the first one, but for the last one.
type part interface{ text() string }

type markPart api.StoneMark

func (x markPart) text() string {
	k, text := markKind, x.Text
	if x.Old {
		k = oldKind
	}
	if text == "" {
		text = noMark
	}
	return k.word() + " " + text
}

type gapPart api.Span

func (x gapPart) text() string { return written.Line(gapKind.word(), x.Low, x.High) }

// noMark is written in place of a Text that is empty.
const noMark = "-"

// checkRest is a prime, so that a digit that was changed changes the rest.
const checkRest = 167

const longestNumber = 5

// noText is what reading gives up with: the string has not the form of a book.
type noText struct{}

// Print returns the book of a line.
func Print(l api.StoneLine) (string, api.Errno) {
	if !isLine(l) {
		return "", api.ErrArg
	}
	texts := []string{written.Line(stonesKind.word(), l.Least, l.Most, l.Turn.Low, l.Turn.High)}
	for _, x := range partsOf(l) {
		texts = append(texts, x.text())
	}
	return written.Text(texts, checkRest), api.OK
}

func partsOf(l api.StoneLine) (parts []part) {
	for _, x := range l.Marks {
		parts = append(parts, markPart(x))
	}
	for _, x := range l.Gaps {
		parts = append(parts, gapPart(x))
	}
	return parts
}

// Read returns the line of a book.
func Read(text string) (l api.StoneLine, e api.Errno) {
	if len(text) > api.StoneText {
		return api.StoneLine{}, api.ErrLong
	}
	if e := attempt(func() { l = lineOf(text) }); e != api.OK {
		return api.StoneLine{}, e
	}
	if !isLine(l) {
		return api.StoneLine{}, api.ErrArg
	}
	return l, api.OK
}

// lineOf returns what a book tells, or gives up if a string has not the form of one.
func lineOf(text string) api.StoneLine {
	texts, right := written.Lines(text, checkRest)
	must(right, noText{})
	n := numbersBehind(texts[0], stonesKind, 4)
	l := api.StoneLine{Least: n[0], Most: n[1], Turn: api.Span{Low: n[2], High: n[3]}}
	for _, text := range texts[1:] {
		switch x := partOf(text).(type) {
		case markPart:
			must(len(l.Gaps) == 0, noText{})
			l.Marks = append(l.Marks, api.StoneMark(x))
		case gapPart:
			l.Gaps = append(l.Gaps, api.Span(x))
		}
	}
	return l
}

// partOf returns the part of a line of a book, or gives up if it is none.
func partOf(text string) part {
	word, rest, _ := strings.Cut(text, " ")
	switch word {
	case markKind.word(), oldKind.word():
		must(rest != "" && !strings.Contains(rest, " "), noText{})
		if rest == noMark {
			rest = ""
		}
		return markPart{Text: rest, Old: word == oldKind.word()}
	}
	n := numbersBehind(text, gapKind, 2)
	return gapPart{Low: n[0], High: n[1]}
}

// numbersBehind returns so many numbers behind the word of a kind, or gives up if a line is not one with them.
func numbersBehind(text string, k kind, many int) []int {
	n, right := written.Numbers(text, k.word(), longestNumber)
	must(right && len(n) == many, noText{})
	return n
}
