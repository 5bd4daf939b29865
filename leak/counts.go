package leak

import (
	"slices"

	"quinaria/api"
)

// next is a point at which to count next, and how many stretches are suspect then at most.
type next struct{ point, suspects int }

// Next returns the point at which to count next, and how many stretches are suspect then at most.
func Next(l api.LeakLine, off int) (int, int, api.Errno) {
	if !isLine(l) || !isOff(off) {
		return 0, 0, api.ErrArg
	}
	x, e := explain(l)
	if e != api.OK {
		return 0, 0, e
	}
	var points []next
	for point := range pointsOf(l) {
		points = append(points, next{point, x.mostSuspects(point, off)})
	}
	y := best(points, func(a, b next) bool { return a.suspects < b.suspects })
	return y.point, y.suspects, api.OK
}

// mostSuspects returns how many stretches are suspect still at most, whatever is read at a point.
func (x explained) mostSuspects(point, off int) int {
	most := 0
	for read := range api.LeakMost + 1 {
		most = max(most, len(x.counted(point, read, off).suspects()))
	}
	return most
}

// counted returns a line with those of its sets with which a number can be read
// at a point. If it cannot be read at all, there are none, and no suspects.
func (x explained) counted(point, read, off int) explained {
	left := explained{LeakLine: x.LeakLine}
	for _, y := range x.sets {
		if y.flows.least(none, first+point) <= read+off && read-off <= y.flows.greatest(none, first+point) {
			left.sets = append(left.sets, y)
		}
	}
	return left
}

// Tells reports whether points tell the thieves.
func Tells(l api.LeakLine, points []int, off int) (bool, api.Errno) {
	if !isLine(l) || !arePoints(l, points) || !isOff(off) {
		return false, api.ErrArg
	}
	x, e := explain(l)
	if e != api.OK {
		return false, e
	}
	pairs := x.pairs()
	for _, point := range points {
		pairs = x.alike(pairs, point, off)
	}
	return len(pairs) == 0, api.OK
}

// pairs returns what flows in two truths at once, for all pairs of sets.
func (x explained) pairs() (pairs []flows) {
	points := pointsOf(x.LeakLine)
	for i, y := range x.sets {
		for _, z := range x.sets[:i] {
			both := anyFlows(2 * points)
			both.follow(x.LeakLine, y.tapped, first)
			both.follow(x.LeakLine, z.tapped, first+points)
			pairs = append(pairs, both)
		}
	}
	return pairs
}

// alike returns those pairs with two truths of which the same can be read at a
// point: they differ there by at most what both counts can be off.
func (x explained) alike(pairs []flows, point, off int) (left []flows) {
	one, other := first+point, first+pointsOf(x.LeakLine)+point
	for _, both := range pairs {
		if attempt(func() { both.bound(one, other, api.Span{Low: -2 * off, High: 2 * off}) }) == api.OK {
			left = append(left, both)
		}
	}
	return left
}

// Plan returns the fewest points that tell the thieves.
func Plan(l api.LeakLine, off int) ([]int, api.Errno) {
	if !isLine(l) || !isOff(off) {
		return nil, api.ErrArg
	}
	x, e := explain(l)
	if e != api.OK {
		return nil, e
	}
	points, found := x.plan(off)
	if !found {
		return nil, api.ErrNone
	}
	return points, api.OK
}

// plan returns the first of the shortest lists of points that tell the
// thieves, and whether there is one. Lists are met in lexicographic order, so
// that only a shorter one takes the place of one that was found.
func (x explained) plan(off int) (plan []int, found bool) {
	var points []int
	var goOn func(pairs []flows, from int)
	goOn = func(pairs []flows, from int) {
		if found && len(points) >= len(plan) {
			return
		}
		if len(pairs) == 0 {
			plan, found = slices.Clone(points), true
			return
		}
		for point := from; point < pointsOf(x.LeakLine); point++ {
			points = append(points, point)
			goOn(x.alike(pairs, point, off), point+1)
			points = points[:len(points)-1]
		}
	}
	goOn(x.pairs(), 0)
	return plan, found
}

// Clash returns two counts that contradict each other.
func Clash(l api.LeakLine) (one, other int, e api.Errno) {
	if !isLine(l) {
		return 0, 0, api.ErrArg
	}
	e = api.ErrNone
search:
	for i, x := range l.Counts {
		for j := i + 1; j < len(l.Counts); j++ {
			if !isPossible(withCounts(l, x, l.Counts[j])) {
				one, other, e = i, j, api.OK
				break search
			}
		}
	}
	return one, other, e
}

// withCounts returns a line with other counts.
func withCounts(l api.LeakLine, counts ...api.LeakCount) api.LeakLine {
	l.Counts = counts
	return l
}

// Wrong returns the fewest counts without which a line is possible.
func Wrong(l api.LeakLine) ([]int, api.Errno) {
	if !isLine(l) {
		return nil, api.ErrArg
	}
	for wrong := range lists(len(l.Counts), len(l.Counts)) {
		if isPossible(without(l, wrong)) {
			return wrong, api.OK
		}
	}
	return nil, api.OK
}

// without returns a line without some of its counts.
func without(l api.LeakLine, wrong []int) api.LeakLine {
	var right []api.LeakCount
	for i, x := range l.Counts {
		if !slices.Contains(wrong, i) {
			right = append(right, x)
		}
	}
	return withCounts(l, right...)
}
