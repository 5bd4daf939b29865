package grant

import (
	"slices"

	"quinaria/api"
	"quinaria/written"
)

// firstWord is the first word of the first line of a text.
const firstWord = "grants"

// checkRest is a prime, so that a digit that was changed changes the rest.
const checkRest = 163

const longestNumber = 5

// noText is what reading gives up with: the string has not the form of a text.
type noText struct{}

// wordOf returns the first word of the lines of a kind of events.
func wordOf(k api.GrantKind) string {
	return [...]string{
		api.GrantGive: "give", api.GrantAttach: "attach", api.GrantDie: "die", api.GrantSell: "sell",
		api.GrantDivide: "divide", api.GrantJoin: "join", api.GrantRenew: "renew", api.GrantAsk: "ask",
	}[k]
}

func (x give) numbers() []int { return []int{x.Day, x.Person, int(x.System), x.Units} }

func (x attach) numbers() []int { return []int{x.Day, x.Estate, int(x.System), x.Units} }

func (x die) numbers() []int { return []int{x.Day, x.Person, x.Other} }

func (x sell) numbers() []int { return []int{x.Day, x.Estate, x.Person} }

func (x divide) numbers() []int { return []int{x.Day, x.Grant, x.Units, x.Person} }

func (x join) numbers() []int { return []int{x.Day, x.Estate, x.Other} }

func (x renew) numbers() []int { return []int{x.Day, x.Grant, x.Person} }

func (x ask) numbers() []int { return []int{x.Day, x.Person, int(x.System), x.Units} }

// Print returns the text of a register.
func Print(b api.GrantBook) (string, api.Errno) {
	if !isBook(b) {
		return "", api.ErrArg
	}
	lines := []string{written.Line(firstWord, append([]int{b.Supply, b.Term, b.Persons}, b.Owners...)...)}
	for _, x := range b.Events {
		lines = append(lines, written.Line(wordOf(x.Kind), eventOf(x).numbers()...))
	}
	return written.Text(lines, checkRest), api.OK
}

// Read returns the register of a text, with a table.
func Read(t api.NozzleTable, text string) (b api.GrantBook, e api.Errno) {
	if len(text) > api.GrantText {
		return api.GrantBook{}, api.ErrLong
	}
	if e := attempt(func() { b = bookOf(text) }); e != api.OK {
		return api.GrantBook{}, e
	}
	b.Table = api.NozzleTable{Rows: slices.Clone(t.Rows), Draw: t.Draw}
	if !isBook(b) {
		return api.GrantBook{}, api.ErrArg
	}
	return b, api.OK
}

// bookOf returns what a text tells, or gives up if a string has not the form of one.
func bookOf(text string) (b api.GrantBook) {
	lines, right := written.Lines(text, checkRest)
	must(right, noText{})
	n, right := written.Numbers(lines[0], firstWord, longestNumber)
	must(right && len(n) >= 3, noText{})
	b.Supply, b.Term, b.Persons, b.Owners = n[0], n[1], n[2], n[3:]
	for _, line := range lines[1:] {
		b.Events = append(b.Events, eventIn(line))
	}
	return b
}

// eventIn returns the event of a line, or gives up if it is none.
func eventIn(line string) api.GrantEvent {
	k, n := kindIn(line)
	must(len(n) == len(eventOf(api.GrantEvent{Kind: k}).numbers()), noText{})
	x := api.GrantEvent{Kind: k, Day: n[0]}
	switch k {
	case api.GrantGive, api.GrantAsk:
		x.Person, x.System, x.Units = n[1], api.NozzleSystem(n[2]), n[3]
	case api.GrantAttach:
		x.Estate, x.System, x.Units = n[1], api.NozzleSystem(n[2]), n[3]
	case api.GrantDie:
		x.Person, x.Other = n[1], n[2]
	case api.GrantSell:
		x.Estate, x.Person = n[1], n[2]
	case api.GrantDivide:
		x.Grant, x.Units, x.Person = n[1], n[2], n[3]
	case api.GrantJoin:
		x.Estate, x.Other = n[1], n[2]
	case api.GrantRenew:
		x.Grant, x.Person = n[1], n[2]
	}
	return x
}

// kindIn returns the kind of the event of a line, and all numbers of the line, or gives up if there is no such kind.
func kindIn(line string) (api.GrantKind, []int) {
	for k := api.GrantGive; k <= api.GrantAsk; k++ {
		if n, right := written.Numbers(line, wordOf(k), longestNumber); right {
			return k, n
		}
	}
	panic(noText{})
}
