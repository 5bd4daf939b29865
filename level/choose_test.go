package level_test

import (
	"math/rand/v2"
	"slices"
	"testing"

	"quinaria/api"
	"quinaria/level"
)

// P1.7: the best try, the first one of several, and errors in their order.
func TestTakes(t *testing.T) {
	tries := func(x ...api.LevelTry) []api.LevelTry { return x }
	high := survey(3, sight(0, 1, 1000, 50), sight(1, 2, 50, 0))
	deep := survey(3, sight(0, 1, -1000, 50), sight(1, 2, -50, 0))
	beyond := survey(3, sight(0, 1, 1000, 50), sight(1, 2, 1000, 50))
	one := survey(3, sight(0, 1, 1000, 0), sight(1, 2, 20, 20))
	many := survey(2, slices.Repeat([]api.LevelSight{sight(0, 1, 5, 4)}, 14)...)
	for i, x := range []struct {
		s         api.LevelSurvey
		from, to  int
		tries     []api.LevelTry
		at, width int
		e         api.Errno
	}{
		{surveyS(), 0, 2, tries(try(0, 2, 2), try(1, 2, 0)), 1, 2, api.OK},
		{surveyS(), 2, 0, tries(try(0, 2, 2), try(1, 2, 0)), 1, 2, api.OK},
		{surveyS(), 0, 2, tries(try(0, 2, 1), try(1, 2, 0)), 0, 2, api.OK},
		{surveyS(), 0, 2, tries(try(0, 2, 50), try(1, 2, 0), try(0, 2, 0), try(2, 0, 0)), 2, 0, api.OK},
		{surveyS(), 0, 2, tries(try(0, 2, 50)), 0, 4, api.OK},
		{surveyS(), 1, 1, tries(try(0, 2, 50), try(0, 1, 0)), 0, 0, api.OK},
		// What joins parts tells nothing of either.
		{parted(), 0, 2, tries(try(0, 1, 0), try(4, 3, 0)), 0, 2, api.OK},
		{parted(), 0, 2, tries(try(0, 1, 0), try(2, 0, 0)), 1, 0, api.OK},
		// 0 to 2 is 1000 to 1100, but 1000 is the greatest Rise.
		{high, 0, 2, tries(try(0, 2, 30)), 0, 30, api.OK},
		{high, 0, 2, tries(try(2, 0, 30)), 0, 30, api.OK},
		{deep, 0, 2, tries(try(0, 2, 30)), 0, 30, api.OK},
		{deep, 0, 2, tries(try(2, 0, 30)), 0, 30, api.OK},
		{high, 0, 2, tries(try(0, 1, 30)), 0, 60, api.OK},
		// 0 to 2 is 1900 to 2100: no Rise is left.
		{beyond, 0, 2, tries(try(0, 2, 50)), 0, 200, api.OK},
		{beyond, 0, 2, tries(try(2, 0, 0), try(0, 1, 50)), 0, 200, api.OK},
		{beyond, 0, 2, tries(try(2, 0, 0), try(0, 1, 49)), 1, 198, api.OK},
		// 0 to 2 is 1000 to 1040: just the Rise 1000 is left.
		{one, 1, 2, tries(try(0, 1, 50), try(0, 2, 0)), 1, 0, api.OK},
		{many, 0, 1, tries(try(0, 1, 3)), 0, 6, api.OK},
		{parted(), 0, 1, tries(try(0, 1, 0)), 0, 0, api.ErrNone},
		{surveyT(), 0, 1, tries(try(0, 1, 0)), 0, 0, api.ErrRule},
		{survey(4, sight(0, 1, 0, 0), sight(0, 1, 1, 0)), 2, 3, tries(try(0, 1, 0)), 0, 0, api.ErrRule},
		{surveyT(), 0, 1, nil, 0, 0, api.ErrArg},
		{parted(), 0, 1, nil, 0, 0, api.ErrArg},
		{surveyS(), 0, 1, slices.Repeat(tries(try(0, 1, 0)), 4), 0, 0, api.OK},
		{surveyS(), 0, 1, slices.Repeat(tries(try(0, 1, 0)), 5), 0, 0, api.ErrArg},
		{surveyS(), 0, 4, tries(try(0, 1, 0)), 0, 0, api.ErrArg},
		{surveyS(), 4, 0, tries(try(0, 1, 0)), 0, 0, api.ErrArg},
		{surveyS(), -1, 0, tries(try(0, 1, 0)), 0, 0, api.ErrArg},
		{surveyS(), 0, -1, tries(try(0, 1, 0)), 0, 0, api.ErrArg},
		{surveyS(), 0, 1, tries(try(0, 0, 0)), 0, 0, api.ErrArg},
		{surveyS(), 0, 1, tries(try(0, 4, 0)), 0, 0, api.ErrArg},
		{surveyS(), 0, 1, tries(try(-1, 0, 0)), 0, 0, api.ErrArg},
		{surveyS(), 0, 1, tries(try(0, 1, 51)), 0, 0, api.ErrArg},
		{surveyS(), 0, 1, tries(try(0, 1, -1)), 0, 0, api.ErrArg},
		{surveyS(), 0, 1, tries(try(0, 1, 0), try(0, 1, huge)), 0, 0, api.ErrArg},
	} {
		if at, width, e := level.Takes(x.s, x.from, x.to, x.tries); at != x.at || width != x.width || e != x.e {
			t.Error(i, at, width, e)
		}
	}
	for i, s := range wrongSurveys() {
		if at, width, e := level.Takes(s, 0, 1, tries(try(0, 1, 0))); at != 0 || width != 0 || e != api.ErrArg {
			t.Error(i, at, width, e)
		}
	}
}

// worstWidth returns the worst width of a try, over all Rises that agree with some truth.
func worstWidth(truths [][]int, from, to int, x api.LevelTry) int {
	worst, some := 0, false
	for rise := -40; rise <= 40; rise++ {
		var agreeing [][]int
		for _, heights := range truths {
			wrong := heights[x.To] - heights[x.From] - rise
			if wrong <= x.Off && -wrong <= x.Off {
				agreeing = append(agreeing, heights)
			}
		}
		if len(agreeing) > 0 {
			y := spanOf(agreeing, from, to)
			worst, some = max(worst, y.High-y.Low), true
		}
	}
	if !some {
		y := spanOf(truths, from, to)
		return y.High - y.Low
	}
	return worst
}

// P1.7: whatever Rise is read, the bounds are no wider, and with another try they can be as wide, or wider.
func TestNoTryIsBetter(t *testing.T) {
	r := rand.New(rand.NewPCG(7, 7))
	possible(some(250, 4, 5), func(s api.LevelSurvey, truths [][]int) {
		bases := basesOf(s)
		from, to := r.IntN(s.Stations), r.IntN(s.Stations)
		if bases[from] != bases[to] {
			return
		}
		var tries []api.LevelTry
		right, least := 0, huge
		for range 1 + r.IntN(4) {
			x := try(r.IntN(s.Stations), 0, r.IntN(4))
			x.To = (x.From + 1 + r.IntN(s.Stations-1)) % s.Stations
			width := spanOf(truths, from, to).High - spanOf(truths, from, to).Low
			if bases[x.From] == bases[x.To] {
				width = worstWidth(truths, from, to, x)
			}
			if width < least {
				right, least = len(tries), width
			}
			tries = append(tries, x)
		}
		if at, width, e := level.Takes(s, from, to, tries); at != right || width != least || e != api.OK {
			t.Error(s, from, to, tries, at, width, e)
		}
	})
}

// contrary is a survey of three sights each of which contradicts both others.
func contrary() api.LevelSurvey {
	return survey(2, sight(0, 1, 1, 0), sight(0, 1, 2, 0), sight(1, 0, -3, 0))
}

// P1.8: Drops and Blames of the chapter, of sights that all contradict each other, and of none.
func TestDropsAndBlames(t *testing.T) {
	all := survey(2)
	for i := range 14 {
		all.Sights = append(all.Sights, sight(0, 1, i, 0))
	}
	for i, x := range []struct {
		s            api.LevelSurvey
		drop, blamed []int
	}{
		{surveyS(), nil, list(0, 1, 2, 3)},
		{surveyT(), list(0), list(0, 1, 2, 3)},
		{surveyU(), list(1), list(1, 2, 3)},
		{contrary(), list(0, 1), nil},
		{all, list(0, 1, 2, 3, 4, 5, 6, 7, 8, 9, 10, 11, 12), nil},
		{survey(2), nil, nil},
		{survey(2, sight(0, 1, 5, 0)), nil, list(0)},
		// The sights 0 and 2 agree, and 1 and 3 do not: neither with those nor with each other.
		{survey(2, sight(0, 1, 5, 0), sight(0, 1, 7, 0), sight(1, 0, -5, 0), sight(0, 1, 9, 0)), list(1, 3), nil},
		{survey(2, sight(0, 1, 5, 0), sight(0, 1, 7, 0), sight(1, 0, -5, 0)), list(1), list(1)},
		// Two contradictions, at the stations 0 and 1, and 2 and 3.
		{survey(4, sight(0, 1, 0, 0), sight(2, 3, 0, 0), sight(0, 1, 1, 0), sight(2, 3, 1, 0)), list(0, 1), nil},
	} {
		if y, e := level.Drops(x.s); !slices.Equal(y, x.drop) || e != api.OK {
			t.Error(i, y, e)
		}
		if y, e := level.Blames(x.s); !slices.Equal(y, x.blamed) || e != api.OK {
			t.Error(i, y, e)
		}
	}
	for i, s := range wrongSurveys() {
		if y, e := level.Drops(s); len(y) > 0 || e != api.ErrArg {
			t.Error(i, y, e)
		}
		if y, e := level.Blames(s); len(y) > 0 || e != api.ErrArg {
			t.Error(i, y, e)
		}
	}
}

// P1.8: no fewer sights that are proposed are enough, and no others as many that come before them.
func TestNoFewerSights(t *testing.T) {
	most := 0
	for _, s := range append(some(200, 4, 9), some(20, 8, 14)...) {
		var right []int
		found := false
		for dropped := range 1 << len(s.Sights) {
			var proposed []int
			for i := range s.Sights {
				if dropped>>i&1 == 1 {
					proposed = append(proposed, i)
				}
			}
			better := !found || len(proposed) < len(right) || len(proposed) == len(right) && slices.Compare(proposed, right) < 0
			if better && isPossible(s, proposed) {
				right, found = proposed, true
			}
		}
		most = max(most, len(right))
		if y, e := level.Drops(s); !slices.Equal(y, right) || e != api.OK {
			t.Error(s, y, right, e)
		}
		var blamed []int
		for i := range s.Sights {
			if isPossible(s, list(i)) {
				blamed = append(blamed, i)
			}
		}
		if y, e := level.Blames(s); !slices.Equal(y, blamed) || e != api.OK {
			t.Error(s, y, blamed, e)
		}
	}
	if most < 4 {
		t.Error("too few sights to drop", most)
	}
}
