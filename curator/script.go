package curator

import (
	"strings"

	"quinaria/api"
	"quinaria/written"
)

// Answers of a script that are words.
const (
	notedWord   = "noted"
	nothingWord = "nothing"
	errorWord   = "error"
)

// Replay returns a desk at which all entries of a journal were made.
func Replay(s api.CuratorSuite, journal string) (*Desk, int, api.Errno) {
	d, e := Open(s)
	switch {
	case e != api.OK:
		return nil, 0, e
	case len(journal) > api.CuratorText:
		return nil, 0, api.ErrLong
	}
	number := 0
	for line := range strings.Lines(journal) {
		if e := d.again(line); e != api.OK {
			return nil, number, e
		}
		number++
	}
	return d, -1, api.OK
}

// again makes the entry of a line of a journal, with its line feed.
func (d *Desk) again(line string) api.Errno {
	line, ended := strings.CutSuffix(line, lineFeed)
	x, e := Parse(line)
	if !ended || e != api.OK {
		return api.ErrText
	}
	return d.Enter(x)
}

// Console returns the answers of a script.
func Console(s api.CuratorSuite, script string) (string, api.Errno) {
	d, e := Open(s)
	switch {
	case e != api.OK:
		return "", e
	case len(script) > api.CuratorText:
		return "", api.ErrLong
	case script != "" && !strings.HasSuffix(script, lineFeed):
		return "", api.ErrText
	}
	var answers strings.Builder
	for line := range strings.Lines(script) {
		answers.WriteString(d.respond(strings.TrimSuffix(line, lineFeed)) + lineFeed)
	}
	return answers.String(), api.OK
}

// respond enters a line, or asks it, and returns the line that answers it.
func (d *Desk) respond(line string) string {
	x, e := Parse(line)
	if e == api.OK {
		return noted(d.Enter(x))
	}
	if q := questionIn(line); q.Kind != 0 {
		return told(d.Ask(q))
	}
	return failed(e)
}

// noted returns the line that answers an entry.
func noted(e api.Errno) string {
	if e != api.OK {
		return failed(e)
	}
	return notedWord
}

// told returns the line that answers a question.
func told(numbers []int, e api.Errno) string {
	switch {
	case e != api.OK:
		return failed(e)
	case len(numbers) == 0:
		return nothingWord
	}
	return joined(numbers...)
}

func failed(e api.Errno) string { return written.Line(errorWord, int(e)) }

// joined returns numbers with a single blank between two of them.
func joined(numbers ...int) string {
	return strings.TrimPrefix(written.Line("", numbers...), " ")
}
