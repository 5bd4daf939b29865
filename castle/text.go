package castle

import (
	"slices"

	"quinaria/api"
	"quinaria/written"
)

// kind is a kind of lines of a text.
type kind int

const (
	castleKind kind = iota
	nozzleKind
)

// word returns the first word of a line of a kind.
func (k kind) word() string {
	if k == castleKind {
		return "castle"
	}
	return "nozzle"
}

// line is a line of a text, but for the last one.
type line interface {
	text() string
	// addTo adds what it tells to the castle that is read.
	addTo(b *api.CastleBasin)
}

type castleLine struct{ weir, spill int }

func (x castleLine) text() string { return written.Line(castleKind.word(), x.weir, x.spill) }

func (x castleLine) addTo(b *api.CastleBasin) { b.Weir, b.Spill = x.weir, x.spill }

type nozzleLine api.CastleNozzle

func (x nozzleLine) text() string { return written.Line(nozzleKind.word(), x.Row, x.Height) }

func (x nozzleLine) addTo(b *api.CastleBasin) { b.Nozzles = append(b.Nozzles, api.CastleNozzle(x)) }

// checkRest is a prime, so that a digit that was changed changes the rest.
const checkRest = 127

const longestNumber = 3

// noText is what reading gives up with: the string has not the form of a text.
type noText struct{}

// Print returns the text of a castle.
func Print(b api.CastleBasin) (string, api.Errno) {
	if !isCastle(b) {
		return "", api.ErrArg
	}
	lines := []line{castleLine{b.Weir, b.Spill}}
	for _, x := range b.Nozzles {
		lines = append(lines, nozzleLine(x))
	}
	var texts []string
	for _, x := range lines {
		texts = append(texts, x.text())
	}
	return written.Text(texts, checkRest), api.OK
}

// Read returns the castle of a text, with a table.
func Read(t api.NozzleTable, text string) (b api.CastleBasin, e api.Errno) {
	if len(text) > api.CastleText {
		return api.CastleBasin{}, api.ErrLong
	}
	if e := attempt(func() { b = castleOf(text) }); e != api.OK {
		return api.CastleBasin{}, e
	}
	b.Table = api.NozzleTable{Rows: slices.Clone(t.Rows), Draw: t.Draw}
	if !isCastle(b) {
		return api.CastleBasin{}, api.ErrArg
	}
	return b, api.OK
}

// castleOf returns what a text tells, or gives up if it has not the form.
func castleOf(text string) (b api.CastleBasin) {
	texts, right := written.Lines(text, checkRest)
	must(right)
	for i, text := range texts {
		lineOf(i, text).addTo(&b)
	}
	return b
}

// lineOf returns a line of a text by its place, or gives up if it is none.
func lineOf(place int, text string) line {
	if place == 0 {
		weir, spill := numbersOf(castleKind, text)
		return castleLine{weir, spill}
	}
	row, height := numbersOf(nozzleKind, text)
	return nozzleLine{Row: row, Height: height}
}

// numbersOf returns both numbers of a line, or gives up if it is not a line of this kind.
func numbersOf(k kind, text string) (first, second int) {
	n, right := written.Numbers(text, k.word(), longestNumber)
	must(right && len(n) == 2)
	return n[0], n[1]
}

func must(right bool) {
	if !right {
		panic(noText{})
	}
}
