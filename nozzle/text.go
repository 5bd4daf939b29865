package nozzle

import (
	"strconv"
	"strings"

	"quinaria/api"
)

// word is the first word of a line of a text.
type word int

const (
	tableWord word = iota
	rowWord
	endWord
)

func (w word) text() string {
	switch w {
	case tableWord:
		return "table"
	case rowWord:
		return "row"
	}
	return "end"
}

// checkRest is a prime, so that a digit that was changed changes the rest.
const checkRest = 151

const longestNumber = 4

// noText is what reading gives up with: the string has not the form of a text.
type noText struct{}

// Print returns the text of a table.
func Print(t api.NozzleTable) (string, api.Errno) {
	if !isTable(t) {
		return "", api.ErrArg
	}
	lines := []string{lineOf(tableWord, t.Draw)}
	for _, x := range t.Rows {
		lines = append(lines, lineOf(rowWord, x.First, x.Second, x.Gives))
	}
	lines = append(lines, endOf(lines))
	return strings.Join(lines, "\n") + "\n", api.OK
}

func lineOf(w word, numbers ...int) string {
	line := w.text()
	for _, n := range numbers {
		line += " " + strconv.Itoa(n)
	}
	return line
}

// endOf returns the last line of a text, after the lines before it.
func endOf(lines []string) string {
	rest := 0
	for i, line := range lines {
		for j := range len(line) {
			rest = (rest + int(line[j])*(j+1)*(i+1)) % checkRest
		}
	}
	digits := strconv.Itoa(rest)
	return endWord.text() + " " + strings.Repeat("0", 3-len(digits)) + digits
}

// Read returns the table of a text.
func Read(text string) (t api.NozzleTable, e api.Errno) {
	if len(text) > api.NozzleText {
		return api.NozzleTable{}, api.ErrLong
	}
	defer func() {
		if _, is := recover().(noText); is {
			t, e = api.NozzleTable{}, api.ErrText
		}
	}()
	t = tableOf(text)
	if !isTable(t) {
		return api.NozzleTable{}, api.ErrArg
	}
	return t, api.OK
}

// tableOf returns what a text tells, or gives up if it has not the form.
func tableOf(text string) (t api.NozzleTable) {
	text, ended := strings.CutSuffix(text, "\n")
	must(ended)
	lines := strings.Split(text, "\n")
	last := len(lines) - 1
	must(last > 0 && lines[last] == endOf(lines[:last]))
	t.Draw = numbersOf(lines[0], tableWord, 1)[0]
	for _, line := range lines[1:last] {
		n := numbersOf(line, rowWord, 3)
		t.Rows = append(t.Rows, api.NozzleRow{First: n[0], Second: n[1], Gives: n[2]})
	}
	return t
}

// numbersOf returns the numbers after the first word of a line, or gives up if
// it is not a line with this word and so many numbers.
func numbersOf(line string, w word, count int) (numbers []int) {
	words := strings.Split(line, " ")
	must(len(words) == 1+count && words[0] == w.text())
	for _, digits := range words[1:] {
		numbers = append(numbers, numberOf(digits))
	}
	return numbers
}

// numberOf returns the number of some digits, or gives up if they are none.
func numberOf(digits string) int {
	must(isFrom(1, longestNumber, len(digits)))
	must(digits[0] != '0' || digits == "0")
	n := 0
	for _, digit := range digits {
		must('0' <= digit && digit <= '9')
		n = 10*n + int(digit-'0')
	}
	return n
}

func must(right bool) {
	if !right {
		panic(noText{})
	}
}
