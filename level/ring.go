package level

import (
	"cmp"
	"iter"
	"slices"

	"quinaria/api"
)

// IsRing reports whether steps are a ring.
func IsRing(s api.LevelSurvey, ring []api.LevelStep) (bool, api.Errno) {
	if Check(s) != api.OK || len(ring) > api.LevelStations {
		return false, api.ErrArg
	}
	for _, step := range ring {
		if !isFrom(0, len(s.Sights)-1, step.Sight) {
			return false, api.ErrArg
		}
	}
	return isLoop(s, ring) && risesAtMost(s, ring) < 0, api.OK
}

// Ring returns the shortest ring.
func Ring(s api.LevelSurvey) ([]api.LevelStep, api.Errno) {
	if Check(s) != api.OK {
		return nil, api.ErrArg
	}
	var rings [][]api.LevelStep
	for loop := range loops(s) {
		if risesAtMost(s, loop) < 0 {
			rings = append(rings, loop)
		}
	}
	ring, some := best(rings, isShorter)
	if !some {
		return nil, api.ErrNone
	}
	return ring, api.OK
}

// Least returns the least error, and the even heights.
func Least(s api.LevelSurvey) (api.LevelFraction, []int, api.Errno) {
	if Check(s) != api.OK {
		return api.LevelFraction{}, nil, api.ErrArg
	}
	least := leastError(s)
	// In parts of a digit, with as many as Den in one, all numbers are integers.
	scaled := api.LevelSurvey{Stations: s.Stations}
	for _, x := range s.Sights {
		x.Rise, x.Off = x.Rise*least.Den, least.Num
		scaled.Sights = append(scaled.Sights, x)
	}
	m, _ := measure(scaled)
	return least, m.fromBases(measured.low), api.OK
}

// leastError returns the least error: around each loop, what does not close is
// divided among its steps, so that the worst loop decides.
func leastError(s api.LevelSurvey) api.LevelFraction {
	worst := api.LevelFraction{Num: 0, Den: 1}
	for loop := range loops(s) {
		short := 0
		for _, step := range loop {
			short -= seen(s, step)
		}
		if short*worst.Den > worst.Num*len(loop) {
			worst = api.LevelFraction{Num: short, Den: len(loop)}
		}
	}
	common := divisor(worst.Num, worst.Den)
	return api.LevelFraction{Num: worst.Num / common, Den: worst.Den / common}
}

// divisor returns the greatest common divisor.
func divisor(a, b int) int {
	for b != 0 {
		a, b = b, a%b
	}
	return a
}

// stepsFrom goes through the steps that begin at a station, each with the station where it ends.
func stepsFrom(s api.LevelSurvey, at int) iter.Seq2[api.LevelStep, int] {
	return func(yield func(api.LevelStep, int) bool) {
		for i, x := range s.Sights {
			if x.From == at && !yield(api.LevelStep{Sight: i}, x.To) {
				return
			}
			if x.To == at && !yield(api.LevelStep{Sight: i, Back: true}, x.From) {
				return
			}
		}
	}
}

// loops goes through all lists of steps that come back to where they began, and to no station twice.
func loops(s api.LevelSurvey) iter.Seq[[]api.LevelStep] {
	return func(yield func([]api.LevelStep) bool) {
		for start := range s.Stations {
			if !loopsFrom(s, start, yield) {
				return
			}
		}
	}
}

// loopsFrom yields all loops that begin at a station, and reports whether more are wanted.
func loopsFrom(s api.LevelSurvey, start int, yield func([]api.LevelStep) bool) bool {
	visited := map[int]bool{}
	var path []api.LevelStep
	var goOn func(at int) bool
	goOn = func(at int) bool {
		visited[at] = true
		for step, next := range stepsFrom(s, at) {
			path = append(path, step)
			if next == start && !yield(slices.Clone(path)) {
				return false
			}
			if !visited[next] && !goOn(next) {
				return false
			}
			path = path[:len(path)-1]
		}
		visited[at] = false
		return true
	}
	return goOn(start)
}

// isLoop reports whether steps come back to where they began, and to no station twice.
func isLoop(s api.LevelSurvey, steps []api.LevelStep) bool {
	if len(steps) < 2 {
		return false
	}
	visited := map[int]bool{}
	_, at := stepEnds(s, steps[len(steps)-1])
	for _, step := range steps {
		from, to := stepEnds(s, step)
		if from != at || visited[to] {
			return false
		}
		visited[to] = true
		at = to
	}
	return true
}

// stepEnds returns where a step begins and where it ends.
func stepEnds(s api.LevelSurvey, step api.LevelStep) (from, to int) {
	x := s.Sights[step.Sight]
	if step.Back {
		return x.To, x.From
	}
	return x.From, x.To
}

// seen returns the rise of a step as it was seen.
func seen(s api.LevelSurvey, step api.LevelStep) int {
	if step.Back {
		return -s.Sights[step.Sight].Rise
	}
	return s.Sights[step.Sight].Rise
}

// risesAtMost returns by how much steps rise together at most.
func risesAtMost(s api.LevelSurvey, steps []api.LevelStep) int {
	most := make([]int, len(steps))
	for i, step := range steps {
		most[i] = seen(s, step) + s.Sights[step.Sight].Off
	}
	return sum(most...)
}

// isShorter reports whether a list has fewer steps than another one, or as many and comes before it.
func isShorter(a, b []api.LevelStep) bool {
	return cmp.Or(cmp.Compare(len(a), len(b)), slices.CompareFunc(a, b, compareSteps)) < 0
}

func compareSteps(a, b api.LevelStep) int {
	switch {
	case a.Sight != b.Sight:
		return cmp.Compare(a.Sight, b.Sight)
	case a.Back == b.Back:
		return 0
	case b.Back:
		return -1
	}
	return 1
}
