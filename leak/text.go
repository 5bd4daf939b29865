package leak

import (
	"quinaria/api"
	"quinaria/written"
)

// word is the first word of a line of a book.
type word int

const (
	lineWord word = iota
	stretchWord
	countWord
)

func (w word) text() string {
	switch w {
	case lineWord:
		return "line"
	case stretchWord:
		return "stretch"
	}
	return "count"
}

// checkRest is a prime, so that a digit that was changed changes the rest.
const checkRest = 157

const longestNumber = 3

// noBook is what reading gives up with: the string has not the form of a book.
type noBook struct{}

func (x stretch) text() string { return written.Line(stretchWord.text(), int(x)) }

func (x count) text() string { return written.Line(countWord.text(), x.Point, x.Low, x.High) }

// Print returns the book of a line.
func Print(l api.LeakLine) (string, api.Errno) {
	if !isLine(l) {
		return "", api.ErrArg
	}
	lines := []string{written.Line(lineWord.text(), l.Least, l.Most, l.Taps)}
	for _, x := range partsOf(l) {
		lines = append(lines, x.text())
	}
	return written.Text(lines, checkRest), api.OK
}

// Read returns the line of a book.
func Read(text string) (l api.LeakLine, e api.Errno) {
	if len(text) > api.LeakText {
		return api.LeakLine{}, api.ErrLong
	}
	if e := attempt(func() { l = lineOf(text) }); e != api.OK {
		return api.LeakLine{}, e
	}
	if !isLine(l) {
		return api.LeakLine{}, api.ErrArg
	}
	return l, api.OK
}

// lineOf returns what a book tells, or gives up if a string has not the form of one.
func lineOf(text string) (l api.LeakLine) {
	lines, right := written.Lines(text, checkRest)
	must(right, noBook{})
	n, is := numbersOf(lines[0], lineWord, 3)
	must(is, noBook{})
	l.Least, l.Most, l.Taps = n[0], n[1], n[2]
	for _, line := range lines[1:] {
		switch x := partOf(line).(type) {
		case stretch:
			must(len(l.Counts) == 0, noBook{})
			l.Gives = append(l.Gives, int(x))
		case count:
			l.Counts = append(l.Counts, api.LeakCount(x))
		}
	}
	return l
}

// partOf returns the part of a line of a book, or gives up if it is none.
func partOf(line string) part {
	if n, is := numbersOf(line, stretchWord, 1); is {
		return stretch(n[0])
	}
	n, is := numbersOf(line, countWord, 3)
	must(is, noBook{})
	return count{Point: n[0], Low: n[1], High: n[2]}
}

// numbersOf returns the numbers of a line of a book, and whether it is one with a word and so many of them.
func numbersOf(line string, w word, many int) ([]int, bool) {
	numbers, right := written.Numbers(line, w.text(), longestNumber)
	return numbers, right && len(numbers) == many
}
