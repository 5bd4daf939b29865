package channel

import (
	"iter"
	"slices"

	"quinaria/api"
)

// end is one of both ends of a span.
type end int

const (
	low end = iota
	high
	bothEnds
)

// aged is a stretch at an age.
type aged struct {
	api.ChannelStretch
	speed, age int
}

// at returns a stretch of a line at an age.
func at(l api.ChannelLine, stretch, age int) aged {
	x := l.Stretches[stretch]
	return aged{x, l.Speeds[x.Fall], age}
}

// cups returns what a stretch carries with a rate of lime.
func (a aged) cups(rate int) int {
	// Lime grows on both walls, but on one floor.
	thick := rate * a.age / 100
	return max(0, a.Breadth-2*thick) * max(0, a.Depth-thick) * a.speed
}

func (a aged) leastCups() int { return a.cups(a.Lime.High) }

func (a aged) mostCups() int { return a.cups(a.Lime.Low) }

func (a aged) carries() api.Span {
	return spanOf([bothEnds]func() int{low: a.leastCups, high: a.mostCups})
}

// surely reports whether a stretch surely carries a need.
func (a aged) surely(need int) bool { return a.leastCups() >= need }

// agrees reports whether a rate agrees with a count at the age of a stretch.
func (a aged) agrees(rate int, cups api.Span) bool {
	return isFrom(cups.Low, cups.High, a.cups(rate))
}

// spanOf returns the span with these ends.
func spanOf(ends [bothEnds]func() int) api.Span {
	return api.Span{Low: ends[low](), High: ends[high]()}
}

// least returns the least of some numbers; there must be one.
func least(numbers ...int) int {
	n, _ := best(slices.Values(numbers), func(a, b int) bool { return a < b })
	return n
}

// best returns the first of some things than which no other one is better, and whether there is one.
func best[T any](things iter.Seq[T], better func(a, b T) bool) (first T, some bool) {
	for x := range things {
		if !some || better(x, first) {
			first, some = x, true
		}
	}
	return first, some
}
