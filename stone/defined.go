package stone

import (
	"slices"

	"quinaria/api"
)

// lost is what a Text has for a digit that is lost.
const lost = '?'

// textLength is how many characters a Text has at most.
const textLength = 2

const (
	leastTurn = 2
	// longestTerm is the most days that Needs takes.
	longestTerm = 10000
)

func isLine(l api.StoneLine) bool {
	return isFrom(1, l.Most, l.Least) && isFrom(l.Least, api.StoneStep, l.Most) &&
		isFrom(leastTurn, l.Turn.High, l.Turn.Low) && isFrom(l.Turn.Low, api.StoneTurn, l.Turn.High) &&
		l.Turn.High-l.Turn.Low <= api.StoneWide &&
		isFrom(2, api.StoneStones, len(l.Marks)) && all(l.Marks, isMark) &&
		len(l.Gaps) == len(l.Marks)-1 && all(l.Gaps, isGap)
}

func isMark(x api.StoneMark) bool {
	characters := 0
	for _, c := range x.Text {
		if c != lost && (c < '0' || '9' < c) {
			return false
		}
		characters++
	}
	return characters <= textLength
}

func isGap(x api.Span) bool {
	return 1 <= x.Low && isFrom(x.Low, api.StonePaces, x.High)
}

// areNumbers reports whether a list is the Numbers of a truth.
func areNumbers(l api.StoneLine, numbers []int) bool {
	return len(numbers) == len(l.Marks) && areRising(numbers) && all(numbers, isNumber)
}

func isNumber(number int) bool { return isFrom(1, api.StoneNumber, number) }

// areRising reports whether each number is greater than the one before.
func areRising(numbers []int) bool {
	for i := range numbers {
		if i > 0 && numbers[i] <= numbers[i-1] {
			return false
		}
	}
	return true
}

func isWork(w api.StoneWork) bool {
	return isFrom(2, api.StoneStones, w.Stones) && isStone(w, w.Base) &&
		isFrom(0, api.StoneWalk, w.Walk) && isFrom(1, api.StoneGangs, w.Gangs) &&
		len(w.Faults) <= api.StoneFaults &&
		all(w.Faults, func(x api.StoneFault) bool { return isFault(w, x) })
}

func isFault(w api.StoneWork, x api.StoneFault) bool {
	return isStone(w, x.Stone) && isFrom(1, api.StoneDays, x.Days) && isLoad(x.Lead) && isLoad(x.Tiles)
}

func isStone(w api.StoneWork, stone int) bool { return isFrom(0, w.Stones-1, stone) }

func isLoad(n int) bool { return isFrom(0, api.StoneLoad, n) }

// areFaults reports whether a list is numbers of faults, in increasing order.
func areFaults(w api.StoneWork, faults []int) bool {
	return areRising(faults) && all(faults, func(k int) bool { return isFrom(0, len(w.Faults)-1, k) })
}

func isPlan(w api.StoneWork, plan []int) bool {
	return len(plan) == len(w.Faults) && all(plan, func(gang int) bool { return isFrom(0, w.Gangs-1, gang) })
}

func arePrices(p api.StonePrices) bool { return isPrice(p.Wage) && isPrice(p.Lead) && isPrice(p.Tile) }

func isPrice(coins int) bool { return isFrom(0, api.StonePrice, coins) }

func isFrom(low, high, n int) bool { return low <= n && n <= high }

func all[T any](list []T, right func(T) bool) bool {
	return !slices.ContainsFunc(list, func(x T) bool { return !right(x) })
}
