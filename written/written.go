// Package written has what the texts and the books of all layers have in
// common: lines with a line feed at the end of each, single blanks between
// words, decimal numbers, and a last line with a CHECK of those before it.
package written

import (
	"slices"
	"strconv"
	"strings"
)

// checkDigits is how many digits a CHECK has.
const checkDigits = 3

// Text returns the text of lines, with the last one, whose CHECK is a rest modulo a number.
func Text(lines []string, modulus int) string {
	return strings.Join(append(slices.Clone(lines), endOf(lines, modulus)), "\n") + "\n"
}

// Lines returns all lines of a text but the last one, and whether this is the
// one that they should have. At least one line is before it.
func Lines(text string, modulus int) (lines []string, right bool) {
	lines, right = LinesOrNone(text, modulus)
	return lines, right && len(lines) > 0
}

// LinesOrNone does as Lines, of texts whose last line can be the only one.
func LinesOrNone(text string, modulus int) (lines []string, right bool) {
	text, ended := strings.CutSuffix(text, "\n")
	lines = strings.Split(text, "\n")
	last := len(lines) - 1
	if !ended || lines[last] != endOf(lines[:last], modulus) {
		return nil, false
	}
	return lines[:last], true
}

// endOf returns the last line of a text, after the lines before it.
func endOf(lines []string, modulus int) string {
	rest := 0
	for i, line := range lines {
		for j := range len(line) {
			rest = (rest + int(line[j])*(j+1)*(i+1)) % modulus
		}
	}
	digits := strconv.Itoa(rest)
	return "end " + strings.Repeat("0", checkDigits-len(digits)) + digits
}

// Line returns the line with a word, and numbers behind it.
func Line(word string, numbers ...int) string {
	for _, n := range numbers {
		word += " " + strconv.Itoa(n)
	}
	return word
}

// Numbers returns the numbers behind a word, none of which has too many
// digits, and whether a line is one with this word.
func Numbers(line, word string, mostDigits int) (numbers []int, right bool) {
	words := strings.Split(line, " ")
	if words[0] != word {
		return nil, false
	}
	for _, digits := range words[1:] {
		n, right := Number(digits, mostDigits)
		if !right {
			return nil, false
		}
		numbers = append(numbers, n)
	}
	return numbers, true
}

// Number returns the number of some digits, without a sign and without leading
// zeros, and whether they are one and not too many.
func Number(digits string, mostDigits int) (n int, right bool) {
	if len(digits) < 1 || len(digits) > mostDigits || digits[0] == '0' && digits != "0" {
		return 0, false
	}
	for _, digit := range digits {
		if digit < '0' || '9' < digit {
			return 0, false
		}
		n = 10*n + int(digit-'0')
	}
	return n, true
}
