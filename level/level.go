// Package level is layer 1: see shared/doc/01-level.md.
//
// What is known of a survey is kept as the greatest rises between all pairs of
// stations (see measure.go); the questions are answered from these.
package level

import "quinaria/api"

// Check returns the error of a survey.
func Check(s api.LevelSurvey) api.Errno {
	if s.Stations < 2 || s.Stations > api.LevelStations || len(s.Sights) > api.LevelSights {
		return api.ErrArg
	}
	for _, x := range s.Sights {
		if !isDefined(s, sight(x)) {
			return api.ErrArg
		}
	}
	return api.OK
}

// Fits reports whether heights fit.
func Fits(s api.LevelSurvey, heights []int) (bool, api.Errno) {
	if Check(s) != api.OK || len(heights) != s.Stations {
		return false, api.ErrArg
	}
	for _, height := range heights {
		if !isFrom(-api.LevelFar, api.LevelFar, height) {
			return false, api.ErrArg
		}
	}
	for _, x := range s.Sights {
		if !isFrom(x.Rise-x.Off, x.Rise+x.Off, heights[x.To]-heights[x.From]) {
			return false, api.OK
		}
	}
	return true, api.OK
}

// Possible reports whether a survey is possible.
func Possible(s api.LevelSurvey) (bool, api.Errno) {
	if Check(s) != api.OK {
		return false, api.ErrArg
	}
	_, possible := measure(s)
	return possible, api.OK
}

// Bounds returns between which bounds the rise from one station to another one lies.
func Bounds(s api.LevelSurvey, from, to int) (api.Span, api.Errno) {
	if Check(s) != api.OK || !isStation(s, from) || !isStation(s, to) {
		return api.Span{}, api.ErrArg
	}
	m, possible := measure(s)
	if !possible {
		return api.Span{}, api.ErrRule
	}
	if !m.joined(from, to) {
		return api.Span{}, api.ErrNone
	}
	return m.rise(from, to), api.OK
}

// Heights returns the least and the greatest rise of each station from its base.
func Heights(s api.LevelSurvey) ([]int, []int, api.Errno) {
	if Check(s) != api.OK {
		return nil, nil, api.ErrArg
	}
	m, possible := measure(s)
	if !possible {
		return nil, nil, api.ErrRule
	}
	var lists [2][]int
	for i, end := range [2]func(measured, int, int) int{measured.low, measured.high} {
		lists[i] = m.fromBases(end)
	}
	return lists[0], lists[1], api.OK
}
