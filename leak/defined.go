package leak

import (
	"slices"

	"quinaria/api"
)

// part is a part of a line.
type part interface {
	// isOf reports whether it is as defined, as a part of a line.
	isOf(l api.LeakLine) bool
	// text returns its line of a book.
	text() string
}

// stretch is a stretch by how many cups are given out along it.
type stretch int

func (x stretch) isOf(api.LeakLine) bool { return isFrom(0, api.LeakGives, int(x)) }

// count is a count of a point.
type count api.LeakCount

func (x count) isOf(l api.LeakLine) bool {
	return isPoint(l, x.Point) && isFrom(0, api.LeakMost, x.Low) && isFrom(x.Low, api.LeakMost, x.High)
}

// partsOf returns all stretches of a line, and then all counts.
func partsOf(l api.LeakLine) (parts []part) {
	for _, gives := range l.Gives {
		parts = append(parts, stretch(gives))
	}
	for _, x := range l.Counts {
		parts = append(parts, count(x))
	}
	return parts
}

func isLine(l api.LeakLine) bool {
	return isFrom(1, api.LeakPoints-1, len(l.Gives)) && len(l.Counts) <= api.LeakCounts &&
		isFrom(1, api.LeakLoss, l.Least) && isFrom(l.Least, api.LeakLoss, l.Most) && isFrom(0, api.LeakTaps, l.Taps) &&
		all(partsOf(l), func(x part) bool { return x.isOf(l) })
}

// pointsOf returns how many points a line has.
func pointsOf(l api.LeakLine) int { return len(l.Gives) + 1 }

func isPoint(l api.LeakLine, point int) bool { return isFrom(0, len(l.Gives), point) }

// arePoints reports whether points of a line are in increasing order.
func arePoints(l api.LeakLine, points []int) bool { return isList(pointsOf(l), points) }

// isSet reports whether a list is a set of stretches of a line.
func isSet(l api.LeakLine, set []int) bool {
	return len(set) <= api.LeakTaps && isList(len(l.Gives), set)
}

// isList reports whether all numbers of a list are from 0 to less than n, each one greater than the one before.
func isList(n int, list []int) bool {
	from := 0
	for _, i := range list {
		if !isFrom(from, n-1, i) {
			return false
		}
		from = i + 1
	}
	return true
}

func isTruth(l api.LeakLine, t api.LeakTruth) bool {
	return isFrom(0, api.LeakMost, t.Inflow) && len(t.Losses) == len(l.Gives) &&
		all(t.Losses, func(lost int) bool { return lost == 0 || isFrom(l.Least, l.Most, lost) })
}

// isOff reports whether counts can be off by so much.
func isOff(off int) bool { return isFrom(0, api.LeakOff, off) }

func isFrom(low, high, n int) bool { return low <= n && n <= high }

func all[T any](list []T, right func(T) bool) bool {
	return !slices.ContainsFunc(list, func(x T) bool { return !right(x) })
}
