package curator

import (
	"slices"

	"quinaria/api"
	"quinaria/written"
)

const (
	lineFeed = "\n"
	// longestNumber is how many digits api.CuratorNumber has.
	longestNumber = 5
)

// shape is what a line is like: its word, and how many numbers come behind it.
type shape struct {
	word    string
	numbers int
}

// entryShapes returns what lines of entries are like, by their kinds.
func entryShapes() []shape {
	return []shape{
		api.CuratorWait: {"wait", 1}, api.CuratorGive: {"give", 3}, api.CuratorAttach: {"attach", 3},
		api.CuratorDie: {"die", 2}, api.CuratorSell: {"sell", 2}, api.CuratorDivide: {"divide", 3},
		api.CuratorJoin: {"join", 2}, api.CuratorRenew: {"renew", 2}, api.CuratorAsk: {"ask", 3},
		api.CuratorMove: {"move", 1}, api.CuratorClean: {"clean", 1}, api.CuratorCount: {"count", 3},
		api.CuratorForget: {"forget", 0}, api.CuratorInflow: {"inflow", 1}, api.CuratorUndo: {"undo", 0},
	}
}

// questionShapes returns what lines of questions are like, by their kinds.
func questionShapes() []shape {
	return []shape{
		api.CuratorDay: {"day", 0}, api.CuratorWater: {"water", 0}, api.CuratorGrants: {"grants", 0},
		api.CuratorWaiting: {"waiting", 0}, api.CuratorHolds: {"holds", 2}, api.CuratorGates: {"gates", 0},
		api.CuratorMoves: {"moves", 1}, api.CuratorSince: {"since", 1}, api.CuratorOldest: {"oldest", 0},
		api.CuratorTapped: {"tapped", 0}, api.CuratorNext: {"next", 1}, api.CuratorShares: {"shares", 0},
		api.CuratorWhy: {"why", 1}, api.CuratorStands: {"stands", 0},
	}
}

// fits reports whether there is such a kind, and its line has so many numbers. Kinds are numbered from 1 on.
func fits(shapes []shape, kind, numbers int) bool {
	return 1 <= kind && kind < len(shapes) && shapes[kind].numbers == numbers
}

func isFormed(x api.CuratorEntry) bool {
	return fits(entryShapes(), int(x.Kind), len(x.Numbers)) && areNumbers(x.Numbers)
}

// isQuestion reports whether there is such a question, whatever its numbers are.
func isQuestion(q api.CuratorQuestion) bool {
	return fits(questionShapes(), int(q.Kind), len(q.Numbers))
}

// areNumbers reports whether a line can have these numbers.
func areNumbers(numbers []int) bool {
	return !slices.ContainsFunc(numbers, func(n int) bool { return n < 0 || api.CuratorNumber < n })
}

// lineOf returns the line of an entry that is formed.
func lineOf(x api.CuratorEntry) string {
	return written.Line(entryShapes()[x.Kind].word, x.Numbers...)
}

// kindIn returns the kind of which a line is, and its numbers, or 0 if it is of none.
func kindIn(line string, shapes []shape) (int, []int) {
	for kind, x := range shapes {
		numbers, right := written.Numbers(line, x.word, longestNumber)
		if right && fits(shapes, kind, len(numbers)) && areNumbers(numbers) {
			return kind, numbers
		}
	}
	return 0, nil
}

// Write returns the line of an entry.
func Write(x api.CuratorEntry) (string, api.Errno) {
	if !isFormed(x) {
		return "", api.ErrArg
	}
	return lineOf(x), api.OK
}

// Parse returns the entry of a line.
func Parse(line string) (api.CuratorEntry, api.Errno) {
	if len(line) > api.CuratorLine {
		return api.CuratorEntry{}, api.ErrLong
	}
	kind, numbers := kindIn(line, entryShapes())
	if kind == 0 {
		return api.CuratorEntry{}, api.ErrText
	}
	return api.CuratorEntry{Kind: api.CuratorKind(kind), Numbers: numbers}, api.OK
}

// questionIn returns the question of a line, with the Kind 0 if it is none.
func questionIn(line string) api.CuratorQuestion {
	kind, numbers := kindIn(line, questionShapes())
	return api.CuratorQuestion{Kind: api.CuratorTopic(kind), Numbers: numbers}
}
