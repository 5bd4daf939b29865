package leak

import (
	"iter"
	"slices"

	"quinaria/api"
)

// explanation is a set that explains a line, with what flows then.
type explanation struct {
	tapped []int
	flows  *flows
}

// explained is a line with its sets: all those that explain it, in order.
type explained struct {
	api.LeakLine
	sets []explanation
}

// explain returns a line with its sets, or an error if it is not possible.
func explain(l api.LeakLine) (explained, api.Errno) {
	x := explained{l, slices.Collect(explanations(l))}
	if len(x.sets) == 0 {
		return explained{}, api.ErrRule
	}
	return x, api.OK
}

// isPossible reports whether some set explains a line.
func isPossible(l api.LeakLine) bool {
	for range explanations(l) {
		return true
	}
	return false
}

// explanations goes through all sets that explain a line, each one after all that come before it.
func explanations(l api.LeakLine) iter.Seq[explanation] {
	return func(yield func(explanation) bool) {
		for tapped := range lists(len(l.Gives), l.Taps) {
			f := anyFlows(pointsOf(l))
			fits := attempt(func() { f.follow(l, tapped, first) }) == api.OK
			if fits && !yield(explanation{tapped, &f}) {
				return
			}
		}
	}
}

// lists goes through all lists of up to so many of the first n numbers in
// increasing order, shorter ones first, those as long in lexicographic order.
func lists(n, longest int) iter.Seq[[]int] {
	return func(yield func([]int) bool) {
		asLong := [][]int{nil}
		for range longest + 1 {
			var longer [][]int
			for _, list := range asLong {
				if !yield(list) {
					return
				}
				from := 0
				if len(list) > 0 {
					from = list[len(list)-1] + 1
				}
				for i := from; i < n; i++ {
					longer = append(longer, append(slices.Clone(list), i))
				}
			}
			asLong = longer
		}
	}
}

// Known returns which stretches are tapped.
func Known(l api.LeakLine) ([]api.LeakWord, api.Errno) {
	if !isLine(l) {
		return nil, api.ErrArg
	}
	x, e := explain(l)
	if e != api.OK {
		return nil, e
	}
	return x.words(), api.OK
}

// words returns what is known of each stretch.
func (x explained) words() []api.LeakWord {
	sets := x.suspects()
	words := make([]api.LeakWord, len(x.Gives))
	for i := range len(x.Gives) {
		switch sets[i] {
		case 0:
			words[i] = api.LeakNever
		case len(x.sets):
			words[i] = api.LeakSurely
		default:
			words[i] = api.LeakMay
		}
	}
	return words
}

// suspects returns of how many sets each stretch is that is suspect.
func (x explained) suspects() map[int]int {
	sets := map[int]int{}
	for _, y := range x.sets {
		for _, i := range y.tapped {
			sets[i]++
		}
	}
	return sets
}

// Sets returns all sets that explain a line.
func Sets(l api.LeakLine) ([][]int, api.Errno) {
	if !isLine(l) {
		return nil, api.ErrArg
	}
	x, e := explain(l)
	if e != api.OK {
		return nil, e
	}
	var sets [][]int
	for _, y := range x.sets {
		sets = append(sets, y.tapped)
	}
	return sets, api.OK
}

// Explains returns how much is lost in all if just a set is tapped.
func Explains(l api.LeakLine, set []int) (api.Span, api.Errno) {
	if !isLine(l) || !isSet(l, set) {
		return api.Span{}, api.ErrArg
	}
	for y := range explanations(l) {
		if slices.Equal(y.tapped, set) {
			alone := explained{l, []explanation{y}}
			return alone.lost(0, len(l.Gives)), api.OK
		}
	}
	return api.Span{}, api.ErrNone
}
