package channel

import (
	"quinaria/api"
	"quinaria/written"
)

// textLine is a line of a text, but for the last one.
type textLine interface {
	text() string
	// addTo adds what it tells to the line that is read.
	addTo(l *api.ChannelLine)
}

type speedsLine []int

func (x speedsLine) text() string { return written.Line(speedsWord, x...) }

func (x speedsLine) addTo(l *api.ChannelLine) { l.Speeds = append(l.Speeds, x...) }

type stretchLine api.ChannelStretch

func (x stretchLine) text() string {
	return written.Line(stretchWord, x.Breadth, x.Depth, x.Fall, x.Lime.Low, x.Lime.High)
}

func (x stretchLine) addTo(l *api.ChannelLine) {
	l.Stretches = append(l.Stretches, api.ChannelStretch(x))
}

const (
	speedsWord  = "speeds"
	stretchWord = "stretch"
)

// checkRest is a prime, so that a digit that was changed changes the rest.
const checkRest = 139

const longestNumber = 4

// noText is what reading gives up with: the string has not the form of a text.
type noText struct{}

// Print returns the text of a line.
func Print(l api.ChannelLine) (string, api.Errno) {
	if !isLine(l) {
		return "", api.ErrArg
	}
	lines := []textLine{speedsLine(l.Speeds)}
	for _, x := range l.Stretches {
		lines = append(lines, stretchLine(x))
	}
	var texts []string
	for _, x := range lines {
		texts = append(texts, x.text())
	}
	return written.Text(texts, checkRest), api.OK
}

// Read returns the line of a text.
func Read(text string) (l api.ChannelLine, e api.Errno) {
	if len(text) > api.ChannelText {
		return api.ChannelLine{}, api.ErrLong
	}
	if e := attempt(func() { l = lineOf(text) }); e != api.OK {
		return api.ChannelLine{}, e
	}
	if !isLine(l) {
		return api.ChannelLine{}, api.ErrArg
	}
	return l, api.OK
}

// lineOf returns what a text tells, or gives up if it has not the form.
func lineOf(text string) (l api.ChannelLine) {
	texts, right := written.Lines(text, checkRest)
	must(right)
	for i, text := range texts {
		textLineOf(i, text).addTo(&l)
	}
	return l
}

// textLineOf returns a line of a text by its place, or gives up if it is none.
func textLineOf(place int, text string) textLine {
	if place == 0 {
		return speedsLine(numbersOf(speedsWord, text))
	}
	n := numbersOf(stretchWord, text)
	must(len(n) == 5)
	return stretchLine{Breadth: n[0], Depth: n[1], Fall: n[2], Lime: api.Span{Low: n[3], High: n[4]}}
}

// numbersOf returns the numbers after the first word of a line, or gives up if it is not such a line.
func numbersOf(word, text string) []int {
	numbers, right := written.Numbers(text, word, longestNumber)
	must(right)
	return numbers
}

func must(right bool) {
	if !right {
		panic(noText{})
	}
}
