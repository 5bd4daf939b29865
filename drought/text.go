package drought

import (
	"quinaria/api"
	"quinaria/written"
)

// word is the first word of a line of a text.
type word int

const (
	droughtWord word = iota
	nodeWord
	outletWord
)

func (w word) text() string {
	switch w {
	case droughtWord:
		return "drought"
	case nodeWord:
		return "node"
	}
	return "outlet"
}

// checkRest is a prime, so that a digit that was changed changes the rest.
const checkRest = 163

const longestNumber = 3

// noText is what reading gives up with: the string has not the form of a text.
type noText struct{}

func (x nodePart) text() string { return written.Line(nodeWord.text(), x.Parent, x.Cap) }

func (x outletPart) text() string {
	return written.Line(outletWord.text(), x.Node, x.Claim, x.Class)
}

// Print returns the text of a tree.
func Print(t api.DroughtTree) (string, api.Errno) {
	if !isTree(t) {
		return "", api.ErrArg
	}
	lines := []string{written.Line(droughtWord.text(), t.Inflow)}
	for _, x := range partsOf(t) {
		lines = append(lines, x.text())
	}
	return written.Text(lines, checkRest), api.OK
}

// Read returns the tree of a text.
func Read(text string) (t api.DroughtTree, e api.Errno) {
	if len(text) > api.DroughtText {
		return api.DroughtTree{}, api.ErrLong
	}
	if e := attempt(func() { t = treeOf(text) }); e != api.OK {
		return api.DroughtTree{}, e
	}
	if !isTree(t) {
		return api.DroughtTree{}, api.ErrArg
	}
	return t, api.OK
}

// treeOf returns what a text tells, or gives up if a string has not the form of one.
func treeOf(text string) (t api.DroughtTree) {
	lines, right := written.Lines(text, checkRest)
	must(right, noText{})
	n, is := numbersOf(lines[0], droughtWord, 1)
	must(is, noText{})
	t.Inflow = n[0]
	for _, line := range lines[1:] {
		switch x := partOf(line).(type) {
		case nodePart:
			must(len(t.Outlets) == 0, noText{})
			t.Nodes = append(t.Nodes, api.DroughtNode(x))
		case outletPart:
			t.Outlets = append(t.Outlets, api.DroughtOutlet(x))
		}
	}
	return t
}

// partOf returns the part of a line of a text, or gives up if it is none.
func partOf(line string) part {
	if n, is := numbersOf(line, nodeWord, 2); is {
		return nodePart{Parent: n[0], Cap: n[1]}
	}
	n, is := numbersOf(line, outletWord, 3)
	must(is, noText{})
	return outletPart{Node: n[0], Claim: n[1], Class: n[2]}
}

// numbersOf returns the numbers of a line of a text, and whether it is one with a word and so many of them.
func numbersOf(line string, w word, many int) ([]int, bool) {
	numbers, right := written.Numbers(line, w.text(), longestNumber)
	return numbers, right && len(numbers) == many
}
