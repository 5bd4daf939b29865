package level

import (
	"strings"

	"quinaria/api"
	"quinaria/written"
)

// word is the first word of a line of a book.
type word int

const (
	surveyWord word = iota
	sightWord
	noWord
)

// The lines of a book.
type (
	surveyLine struct{ stations int }
	sightLine  struct{ api.LevelSight }
)

// notBook is what reading gives up with: the text is not a book.
type notBook struct{}

// checkRest is a prime, so that a digit that was changed changes the rest.
const checkRest = 149

const longestNumber = 4

// Print returns the book of a survey.
func Print(s api.LevelSurvey) (string, api.Errno) {
	if Check(s) != api.OK {
		return "", api.ErrArg
	}
	lines := []string{written.Line(surveyWord.text(), s.Stations)}
	for _, x := range s.Sights {
		lines = append(lines, written.Line(sightWord.text(), x.From, x.To, x.Rise, x.Off))
	}
	return written.Text(lines, checkRest), api.OK
}

// Read returns the survey of a book.
func Read(text string) (s api.LevelSurvey, e api.Errno) {
	if len(text) > api.LevelText {
		return api.LevelSurvey{}, api.ErrLong
	}
	defer func() {
		if _, is := recover().(notBook); is {
			s, e = api.LevelSurvey{}, api.ErrText
		}
	}()
	s = surveyOf(text)
	if Check(s) != api.OK {
		return api.LevelSurvey{}, api.ErrArg
	}
	return s, api.OK
}

// surveyOf returns what a text tells, or gives up if it has not the form of a book.
func surveyOf(text string) (s api.LevelSurvey) {
	lines, right := written.Lines(text, checkRest)
	must(right)
	for i, line := range lines {
		switch x := lineOf(line).(type) {
		case surveyLine:
			must(i == 0)
			s.Stations = x.stations
		case sightLine:
			must(i > 0)
			s.Sights = append(s.Sights, x.LevelSight)
		}
	}
	return s
}

func must(right bool) {
	if !right {
		panic(notBook{})
	}
}

// lineOf returns the line of a text, or gives up if it is none.
func lineOf(text string) any {
	words := strings.Split(text, " ")
	first := wordOf(words[0])
	must(len(words) == 1+first.count())
	var numbers []int
	for _, x := range words[1:] {
		numbers = append(numbers, numberOf(x))
	}
	if first == surveyWord {
		return surveyLine{numbers[0]}
	}
	return sightLine{api.LevelSight{From: numbers[0], To: numbers[1], Rise: numbers[2], Off: numbers[3]}}
}

// wordOf returns the word of a text, or gives up if it is none.
func wordOf(text string) word {
	for w := range noWord {
		if w.text() == text {
			return w
		}
	}
	panic(notBook{})
}

func (w word) text() string {
	if w == surveyWord {
		return "survey"
	}
	return "sight"
}

// count returns how many further words there are in a line.
func (w word) count() int {
	if w == sightWord {
		return 4
	}
	return 1
}

// numberOf returns the number of a text, or gives up if it is none.
func numberOf(text string) int {
	digits, minus := strings.CutPrefix(text, "-")
	n, right := written.Number(digits, longestNumber)
	must(right)
	if minus {
		must(n > 0)
		return -n
	}
	return n
}
