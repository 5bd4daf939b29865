package nozzle

import (
	"quinaria/api"
	"quinaria/written"
)

// word is the first word of a line of a text.
type word int

const (
	tableWord word = iota
	rowWord
)

func (w word) text() string {
	if w == tableWord {
		return "table"
	}
	return "row"
}

// checkRest is a prime, so that a digit that was changed changes the rest.
const checkRest = 151

const longestNumber = 4

// noText is what reading gives up with: the string has not the form of a text.
type noText struct{}

// Print returns the text of a table.
func Print(t api.NozzleTable) (string, api.Errno) {
	if !isTable(t) {
		return "", api.ErrArg
	}
	lines := []string{written.Line(tableWord.text(), t.Draw)}
	for _, x := range t.Rows {
		lines = append(lines, written.Line(rowWord.text(), x.First, x.Second, x.Gives))
	}
	return written.Text(lines, checkRest), api.OK
}

// Read returns the table of a text.
func Read(text string) (t api.NozzleTable, e api.Errno) {
	if len(text) > api.NozzleText {
		return api.NozzleTable{}, api.ErrLong
	}
	defer func() {
		if _, is := recover().(noText); is {
			t, e = api.NozzleTable{}, api.ErrText
		}
	}()
	t = tableOf(text)
	if !isTable(t) {
		return api.NozzleTable{}, api.ErrArg
	}
	return t, api.OK
}

// tableOf returns what a text tells, or gives up if it has not the form.
func tableOf(text string) (t api.NozzleTable) {
	lines, right := written.Lines(text, checkRest)
	must(right)
	t.Draw = numbersOf(lines[0], tableWord, 1)[0]
	for _, line := range lines[1:] {
		n := numbersOf(line, rowWord, 3)
		t.Rows = append(t.Rows, api.NozzleRow{First: n[0], Second: n[1], Gives: n[2]})
	}
	return t
}

// numbersOf returns the numbers after the first word of a line, or gives up if
// it is not a line with this word and so many numbers.
func numbersOf(line string, w word, count int) []int {
	numbers, right := written.Numbers(line, w.text(), longestNumber)
	must(right && len(numbers) == count)
	return numbers
}

func must(right bool) {
	if !right {
		panic(noText{})
	}
}
