package castle

import (
	"slices"
	"strconv"
	"strings"

	"quinaria/api"
)

// kind is a kind of lines of a text.
type kind int

const (
	castleKind kind = iota
	nozzleKind
	endKind
)

// word returns the first word of a line of a kind.
func (k kind) word() string {
	switch k {
	case castleKind:
		return "castle"
	case nozzleKind:
		return "nozzle"
	}
	return "end"
}

// line is a line of a text, but for the last one.
type line interface {
	text() string
	// addTo adds what it tells to the castle that is read.
	addTo(b *api.CastleBasin)
}

type castleLine struct{ weir, spill int }

func (x castleLine) text() string { return textOf(castleKind, x.weir, x.spill) }

func (x castleLine) addTo(b *api.CastleBasin) { b.Weir, b.Spill = x.weir, x.spill }

type nozzleLine api.CastleNozzle

func (x nozzleLine) text() string { return textOf(nozzleKind, x.Row, x.Height) }

func (x nozzleLine) addTo(b *api.CastleBasin) { b.Nozzles = append(b.Nozzles, api.CastleNozzle(x)) }

// checkRest is a prime, so that a digit that was changed changes the rest.
const checkRest = 127

const longestNumber = 3

// noText is what reading gives up with: the string has not the form of a text.
type noText struct{}

// Print returns the text of a castle.
func Print(b api.CastleBasin) (string, api.Errno) {
	if !isCastle(b) {
		return "", api.ErrArg
	}
	lines := []line{castleLine{b.Weir, b.Spill}}
	for _, x := range b.Nozzles {
		lines = append(lines, nozzleLine(x))
	}
	var texts []string
	for _, x := range lines {
		texts = append(texts, x.text())
	}
	texts = append(texts, endOf(texts))
	return strings.Join(texts, "\n") + "\n", api.OK
}

func textOf(k kind, numbers ...int) string {
	text := k.word()
	for _, n := range numbers {
		text += " " + strconv.Itoa(n)
	}
	return text
}

// endOf returns the last line of a text, after the lines before it.
func endOf(texts []string) string {
	rest := 0
	for i, text := range texts {
		for j := range len(text) {
			rest = (rest + int(text[j])*(j+1)*(i+1)) % checkRest
		}
	}
	digits := strconv.Itoa(rest)
	return endKind.word() + " " + strings.Repeat("0", 3-len(digits)) + digits
}

// Read returns the castle of a text, with a table.
func Read(t api.NozzleTable, text string) (b api.CastleBasin, e api.Errno) {
	if len(text) > api.CastleText {
		return api.CastleBasin{}, api.ErrLong
	}
	if e := attempt(func() { b = castleOf(text) }); e != api.OK {
		return api.CastleBasin{}, e
	}
	b.Table = api.NozzleTable{Rows: slices.Clone(t.Rows), Draw: t.Draw}
	if !isCastle(b) {
		return api.CastleBasin{}, api.ErrArg
	}
	return b, api.OK
}

// castleOf returns what a text tells, or gives up if it has not the form.
func castleOf(text string) (b api.CastleBasin) {
	text, ended := strings.CutSuffix(text, "\n")
	must(ended)
	texts := strings.Split(text, "\n")
	last := len(texts) - 1
	must(last > 0 && texts[last] == endOf(texts[:last]))
	for i, text := range texts[:last] {
		lineOf(i, text).addTo(&b)
	}
	return b
}

// lineOf returns a line of a text by its place, or gives up if it is none.
func lineOf(place int, text string) line {
	if place == 0 {
		weir, spill := numbersOf(castleKind, text)
		return castleLine{weir, spill}
	}
	row, height := numbersOf(nozzleKind, text)
	return nozzleLine{Row: row, Height: height}
}

// numbersOf returns both numbers of a line, or gives up if it is not a line of this kind.
func numbersOf(k kind, text string) (first, second int) {
	words := strings.Split(text, " ")
	must(len(words) == 3 && words[0] == k.word())
	return numberOf(words[1]), numberOf(words[2])
}

// numberOf returns the number of some digits, or gives up if they are none.
func numberOf(digits string) int {
	must(isFrom(1, longestNumber, len(digits)))
	must(digits[0] != '0' || digits == "0")
	n := 0
	for _, digit := range digits {
		must('0' <= digit && digit <= '9')
		n = 10*n + int(digit-'0')
	}
	return n
}

func must(right bool) {
	if !right {
		panic(noText{})
	}
}
