package gate

import (
	"quinaria/api"
	"quinaria/written"
)

// kind is a kind of lines of a text.
type kind int

const (
	pointKind kind = iota
	channelKind
	gateKind
	kinds
)

// word returns the first word of a line of a kind.
func (k kind) word() string {
	switch k {
	case pointKind:
		return "point"
	case channelKind:
		return "channel"
	}
	return "gate"
}

// line is a line of a text, but for the last one.
type line interface{ text() string }

type pointLine api.GatePoint

func (x pointLine) text() string {
	return written.Line(pointKind.word(), x.Spring.Low, x.Spring.High, x.Need)
}

type channelLine api.GateChannel

func (x channelLine) text() string {
	k := channelKind
	if x.Gate {
		k = gateKind
	}
	return written.Line(k.word(), x.From, x.To, x.Cups)
}

// checkRest is a prime, so that a digit that was changed changes the rest.
const checkRest = 149

const longestNumber = 5

// noText is what reading gives up with: the string has not the form of a text.
type noText struct{}

// Print returns the text of a network.
func Print(n api.GateNet) (string, api.Errno) {
	if !isNet(n) {
		return "", api.ErrArg
	}
	var texts []string
	for _, x := range linesOf(n) {
		texts = append(texts, x.text())
	}
	return written.Text(texts, checkRest), api.OK
}

func linesOf(n api.GateNet) (lines []line) {
	for _, x := range n.Points {
		lines = append(lines, pointLine(x))
	}
	for _, x := range n.Channels {
		lines = append(lines, channelLine(x))
	}
	return lines
}

// Read returns the network of a text.
func Read(text string) (n api.GateNet, e api.Errno) {
	if len(text) > api.GateText {
		return api.GateNet{}, api.ErrLong
	}
	if e := attempt(func() { n = netOf(text) }); e != api.OK {
		return api.GateNet{}, e
	}
	if !isNet(n) {
		return api.GateNet{}, api.ErrArg
	}
	return n, api.OK
}

// netOf returns what a text tells, or gives up if a string has not the form of one.
func netOf(text string) (n api.GateNet) {
	texts, right := written.LinesOrNone(text, checkRest)
	must(right, noText{})
	for _, text := range texts {
		switch x := lineOf(text).(type) {
		case pointLine:
			must(len(n.Channels) == 0, noText{})
			n.Points = append(n.Points, api.GatePoint(x))
		case channelLine:
			n.Channels = append(n.Channels, api.GateChannel(x))
		}
	}
	return n
}

// lineOf returns a line of a text, or gives up if it is none.
func lineOf(text string) line {
	for k := range kinds {
		n, right := written.Numbers(text, k.word(), longestNumber)
		if right && len(n) == 3 {
			return k.line(n[0], n[1], n[2])
		}
	}
	panic(noText{})
}

// line returns the line of a kind with these numbers.
func (k kind) line(first, second, third int) line {
	if k == pointKind {
		return pointLine{Spring: api.Span{Low: first, High: second}, Need: third}
	}
	return channelLine{From: first, To: second, Cups: third, Gate: k == gateKind}
}
