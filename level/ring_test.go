package level_test

import (
	"slices"
	"testing"

	"quinaria/api"
	"quinaria/level"
)

// around is a survey of one ring through all stations, that rises by 7 less than it should.
func around() api.LevelSurvey {
	s := survey(8)
	for i := range 7 {
		s.Sights = append(s.Sights, sight(i, i+1, 10, 1))
	}
	s.Sights = append(s.Sights, sight(7, 0, -85, 1))
	return s
}

// P1.3: what is no ring, in each way, and errors.
func TestIsRing(t *testing.T) {
	ring := steps(on(0), on(1), on(2), back(3))
	whole := steps(on(0), on(1), on(2), on(3), on(4), on(5), on(6), on(7))
	eight := survey(3, sight(0, 1, -100, 0), sight(1, 0, -100, 0), sight(1, 2, -100, 0), sight(2, 1, -100, 0))
	for i, x := range []struct {
		s    api.LevelSurvey
		ring []api.LevelStep
		want bool
		e    api.Errno
	}{
		{surveyT(), ring, true, api.OK},
		{surveyT(), steps(on(2), back(3), on(0), on(1)), true, api.OK},
		{surveyT(), steps(back(3), on(0), on(1), on(2)), true, api.OK},
		{surveyU(), steps(on(4), on(1), on(2), back(3)), true, api.OK},
		{surveyS(), ring, false, api.OK},
		{surveyT(), steps(on(3), back(2), back(1), back(0)), false, api.OK},
		{surveyT(), ring[:3], false, api.OK},
		{surveyT(), ring[1:], false, api.OK},
		{surveyT(), steps(on(0), on(2), on(1), back(3)), false, api.OK},
		{surveyT(), steps(on(0), on(1), on(2), on(3)), false, api.OK},
		{surveyT(), steps(back(3), on(2), on(1), on(0)), false, api.OK},
		{surveyT(), slices.Repeat(ring, 2), false, api.OK},
		{surveyT(), nil, false, api.OK},
		{survey(2, sight(0, 1, -5, 0)), steps(on(0)), false, api.OK},
		{survey(2, sight(0, 1, -5, 0)), steps(on(0), back(0)), false, api.OK},
		{survey(2, sight(0, 1, 5, 1), sight(0, 1, 8, 1)), steps(on(0), back(1)), true, api.OK},
		{survey(2, sight(0, 1, 5, 1), sight(0, 1, 8, 1)), steps(back(1), on(0)), true, api.OK},
		{survey(2, sight(0, 1, 5, 1), sight(0, 1, 8, 1)), steps(on(1), back(0)), false, api.OK},
		{survey(2, sight(0, 1, 5, 1), sight(0, 1, 7, 1)), steps(on(0), back(1)), false, api.OK},
		{eight, steps(on(0), on(1)), true, api.OK},
		{eight, steps(on(0), on(2), on(3), on(1)), false, api.OK},
		{eight, steps(on(0), on(1), on(0), on(1)), false, api.OK},
		{eight, steps(on(0), on(2)), false, api.OK},
		{eight, steps(on(0), on(3)), false, api.OK},
		{around(), whole, true, api.OK},
		{around(), append(whole, on(0)), false, api.ErrArg},
		{surveyT(), steps(on(0), on(1), on(2), back(4)), false, api.ErrArg},
		{surveyT(), steps(on(-1)), false, api.ErrArg},
		{surveyT(), steps(back(huge), on(-huge-1)), false, api.ErrArg},
		{survey(2), steps(on(0)), false, api.ErrArg},
		{survey(2), nil, false, api.OK},
	} {
		if is, e := level.IsRing(x.s, x.ring); is != x.want || e != x.e {
			t.Error(i, is, e)
		}
	}
	for i, s := range wrongSurveys() {
		if is, e := level.IsRing(s, nil); is || e != api.ErrArg {
			t.Error(i, is, e)
		}
	}
}

// P1.3: the shortest ring is the first one of several.
func TestRing(t *testing.T) {
	for i, x := range []struct {
		s    api.LevelSurvey
		want []api.LevelStep
		e    api.Errno
	}{
		{surveyS(), nil, api.ErrNone},
		{survey(2), nil, api.ErrNone},
		{surveyT(), steps(on(0), on(1), on(2), back(3)), api.OK},
		{surveyU(), steps(on(0), on(1), on(2), back(3)), api.OK},
		{around(), steps(on(0), on(1), on(2), on(3), on(4), on(5), on(6), on(7)), api.OK},
		// The shorter one comes later, at the stations 2 and 3.
		{survey(4, sight(0, 1, 0, 0), sight(1, 2, 0, 0), sight(2, 0, 9, 0), sight(2, 3, 1, 0), sight(3, 2, 0, 0)), steps(back(3), back(4)), api.OK},
		// It begins with its sight of the least number, also if that is gone back along.
		{survey(3, sight(1, 0, 5, 0), sight(1, 2, 1, 0), sight(2, 0, 1, 0)), steps(back(0), on(1), on(2)), api.OK},
		{survey(3, sight(1, 0, -5, 0), sight(1, 2, 1, 0), sight(2, 0, 1, 0)), steps(on(0), back(2), back(1)), api.OK},
		{survey(3, sight(2, 1, 5, 0), sight(0, 1, 1, 0), sight(2, 0, 1, 0)), steps(back(0), on(2), on(1)), api.OK},
		// Two rings with the sight 0: by 1 and by 2.
		{survey(2, sight(0, 1, 5, 1), sight(0, 1, 9, 1), sight(0, 1, 9, 1)), steps(on(0), back(1)), api.OK},
		// Two rings with the sight 0, that goes on in one of them and back in the other one.
		{survey(2, sight(0, 1, 5, 1), sight(0, 1, 0, 1), sight(0, 1, 9, 1)), steps(on(0), back(2)), api.OK},
		{survey(2, sight(0, 1, 5, 1), sight(0, 1, 0, 1)), steps(back(0), on(1)), api.OK},
	} {
		if y, e := level.Ring(x.s); !slices.Equal(y, x.want) || e != x.e {
			t.Error(i, y, e)
		}
	}
	for i, s := range wrongSurveys() {
		if y, e := level.Ring(s); len(y) > 0 || e != api.ErrArg {
			t.Error(i, y, e)
		}
	}
}

// proposals goes through all lists of so many steps, in lexicographic order.
func proposals(s api.LevelSurvey, count int, propose func([]api.LevelStep) bool) bool {
	var goOn func(path []api.LevelStep) bool
	goOn = func(path []api.LevelStep) bool {
		if len(path) == count {
			return propose(path)
		}
		for i := range s.Sights {
			if goOn(append(path, on(i))) || goOn(append(path, back(i))) {
				return true
			}
		}
		return false
	}
	return goOn(make([]api.LevelStep, 0, count))
}

// wrongBy returns by how much steps fall at most, and whether they are a loop.
func wrongBy(s api.LevelSurvey, path []api.LevelStep, off int) (int, bool) {
	falls := 0
	var from, to []int
	for _, step := range path {
		x := s.Sights[step.Sight]
		if step.Back {
			x = sight(x.To, x.From, -x.Rise, x.Off)
		}
		falls -= x.Rise + off*x.Off
		from, to = append(from, x.From), append(to, x.To)
	}
	for i := range path {
		if from[i] != to[(i+len(path)-1)%len(path)] || slices.Contains(to[:i], to[i]) {
			return 0, false
		}
	}
	return falls, len(path) > 1
}

// P1.3, P0.1: a survey is possible just if it has no ring, and no ring that is proposed is shorter, or comes before it.
func TestNoRingIsShorter(t *testing.T) {
	for _, s := range some(120, 4, 6) {
		var want []api.LevelStep
		for count := range s.Stations + 1 {
			if proposals(s, count, func(path []api.LevelStep) bool {
				falls, loop := wrongBy(s, path, 1)
				is, e := level.IsRing(s, path)
				if e != api.OK || is != (loop && falls > 0) {
					t.Error(s, path, is, e)
				}
				if is {
					want = slices.Clone(path)
				}
				return is
			}) {
				break
			}
		}
		y, e := level.Ring(s)
		can, _ := level.Possible(s)
		if !slices.Equal(y, want) || (e == api.ErrNone) != can || (e == api.OK) == can || can != (want == nil) {
			t.Error(s, y, want, e)
		}
	}
}

// P1.4: the least errors of the chapter, reduced ones, and the ends of the numbers.
func TestLeast(t *testing.T) {
	fraction := func(num, den int) api.LevelFraction { return api.LevelFraction{Num: num, Den: den} }
	for i, x := range []struct {
		s    api.LevelSurvey
		want api.LevelFraction
		even []int
		e    api.Errno
	}{
		{surveyS(), fraction(1, 2), list(0, 21, 14, 29), api.OK},
		{surveyT(), fraction(7, 4), list(0, 47, 38, 73), api.OK},
		{survey(2), fraction(0, 1), list(0, 0), api.OK},
		{parted(), fraction(0, 1), list(0, 0, -5, 8, 0), api.OK},
		{full(), fraction(0, 1), list(0, 1000, 2000, 3000, 4000, 5000, 6000, 7000), api.OK},
		{survey(2, sight(0, 1, 5, 50), sight(1, 0, -9, 50)), fraction(2, 1), list(0, 7), api.OK},
		{survey(2, sight(1, 0, 5, 0), sight(1, 0, 8, 0)), fraction(3, 2), list(0, -13), api.OK},
		{survey(2, sight(0, 1, 1000, 0), sight(1, 0, 1000, 0)), fraction(1000, 1), list(0, 0), api.OK},
		{around(), fraction(15, 8), list(0, 95, 190, 285, 380, 475, 570, 665), api.OK},
		// Around three stations 2 is divided; the part of 3 and 4 closes.
		{survey(5, sight(0, 1, 1, 0), sight(1, 2, 1, 0), sight(2, 0, 0, 0), sight(4, 3, 2, 0)), fraction(2, 3), list(0, 1, 2, 0, -8), api.OK},
		// The worse ring is the shorter one, and the station 3 is as low as can be.
		{survey(4, sight(0, 1, 4, 0), sight(0, 1, 8, 0), sight(1, 2, 1, 0), sight(0, 2, 8, 0), sight(2, 3, 0, 0)), fraction(2, 1), list(0, 6, 6, 4), api.OK},
	} {
		y, even, e := level.Least(x.s)
		if y != x.want || !slices.Equal(even, x.even) || e != x.e {
			t.Error(i, y, even, e)
		}
	}
	for i, s := range wrongSurveys() {
		if y, even, e := level.Least(s); y != fraction(0, 0) || len(even) > 0 || e != api.ErrArg {
			t.Error(i, y, even, e)
		}
	}
}

// lowest returns the least heights with which no sight is off by more than num
// of den parts of a digit, in these parts, by raising all that are too low.
func lowest(s api.LevelSurvey, num, den int) []int {
	heights := make([]int, s.Stations)
	for at, base := range basesOf(s) {
		if base != at {
			heights[at] = -1000
		}
	}
	for range 1000 {
		for _, x := range s.Sights {
			heights[x.To] = max(heights[x.To], heights[x.From]+x.Rise*den-num)
			heights[x.From] = max(heights[x.From], heights[x.To]-x.Rise*den-num)
		}
	}
	return heights
}

// P1.4: some ring divides as much among its steps, so that no heights are better, and the even heights are the least ones that are as good.
func TestNoErrorIsLess(t *testing.T) {
	for _, s := range some(120, 4, 6) {
		y, even, e := level.Least(s)
		if e != api.OK || y.Num < 0 || y.Den < 1 || len(even) != s.Stations {
			t.Fatal(s, y, even, e)
		}
		reached := y.Num == 0 && y.Den == 1
		for count := range s.Stations + 1 {
			proposals(s, count, func(path []api.LevelStep) bool {
				falls, loop := wrongBy(s, path, 0)
				if loop && falls*y.Den > y.Num*count {
					t.Error(s, path, y)
				}
				reached = reached || loop && falls*y.Den == y.Num*count
				return false
			})
		}
		for n := 2; n <= y.Den; n++ {
			if y.Num%n == 0 && y.Den%n == 0 {
				t.Error(s, y)
			}
		}
		if !reached || !slices.Equal(even, lowest(s, y.Num, y.Den)) {
			t.Error(s, y, even, lowest(s, y.Num, y.Den))
		}
		for _, x := range s.Sights {
			wrong := even[x.To] - even[x.From] - x.Rise*y.Den
			if wrong > y.Num || -wrong > y.Num {
				t.Error(s, y, even)
			}
		}
	}
}
