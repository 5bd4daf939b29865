package level_test

import (
	"slices"
	"testing"

	"quinaria/api"
	"quinaria/level"
)

// P1.1: Check takes all that is as defined, to its ends, and nothing else.
func TestCheck(t *testing.T) {
	for i, s := range []api.LevelSurvey{
		surveyS(), surveyT(), surveyU(), parted(), full(), survey(2), survey(8),
		survey(2, sight(0, 1, 1000, 50)), survey(2, sight(1, 0, -1000, 0)), survey(8, sight(7, 0, 0, 0)),
		survey(2, slices.Repeat([]api.LevelSight{sight(0, 1, 0, 0)}, 14)...),
	} {
		if e := level.Check(s); e != api.OK {
			t.Error(i, s, e)
		}
	}
	for i, s := range wrongSurveys() {
		if e := level.Check(s); e != api.ErrArg {
			t.Error(i, s, e)
		}
	}
}

// P1.1: Fits is told by each sight, to the ends of its Off.
func TestFits(t *testing.T) {
	for i, x := range []struct {
		s       api.LevelSurvey
		heights []int
		fits    bool
		e       api.Errno
	}{
		{surveyS(), list(0, 10, 6, 13), true, api.OK},
		{surveyS(), list(-100, -89, -95, -87), true, api.OK},
		{surveyS(), list(-100, -89, -95, -87-1), false, api.OK},
		{surveyS(), list(0, 9, 7, 13), true, api.OK},
		{surveyS(), list(0, 8, 6, 13), false, api.OK},
		{surveyS(), list(0, 10, 4, 13), false, api.OK},
		{surveyS(), list(0, 11, 9, 17), true, api.OK},
		{surveyS(), list(0, 11, 10, 17), false, api.OK},
		{surveyS(), list(0, 11, 9, 18), false, api.OK},
		{surveyT(), list(0, 11, 9, 17), false, api.OK},
		{survey(2), list(20000, -20000), true, api.OK},
		{survey(2), list(20001, 0), false, api.ErrArg},
		{survey(2), list(0, -20001), false, api.ErrArg},
		{survey(2), list(0, huge), false, api.ErrArg},
		{survey(2), list(0, -huge-1), false, api.ErrArg},
		{survey(2), list(0), false, api.ErrArg},
		{survey(2), list(0, 0, 0), false, api.ErrArg},
		{survey(2), nil, false, api.ErrArg},
		{survey(2, sight(0, 1, -7, 0)), list(20000, 19993), true, api.OK},
		{survey(2, sight(0, 1, -7, 0)), list(20000, 19994), false, api.OK},
		{survey(2, sight(0, 1, -7, 0)), list(20000, 19992), false, api.OK},
	} {
		if fits, e := level.Fits(x.s, x.heights); fits != x.fits || e != x.e {
			t.Error(i, fits, e)
		}
	}
	for i, s := range wrongSurveys() {
		if fits, e := level.Fits(s, list(0, 0)); fits || e != api.ErrArg {
			t.Error(i, fits, e)
		}
	}
}

// P1.1: a survey is possible just if there is a truth.
func TestPossible(t *testing.T) {
	for i, x := range []struct {
		s    api.LevelSurvey
		want bool
	}{
		{surveyS(), true}, {surveyT(), false}, {surveyU(), false}, {parted(), true}, {full(), true}, {survey(2), true},
		{survey(2, sight(0, 1, 5, 2), sight(1, 0, -8, 1)), true},
		{survey(2, sight(0, 1, 5, 2), sight(1, 0, -9, 1)), false},
		{survey(8, slices.Repeat([]api.LevelSight{sight(6, 7, 1000, 0)}, 14)...), true},
		{survey(8, append(full().Sights[:7:7], sight(0, 7, 1000, 50))...), false},
	} {
		if is, e := level.Possible(x.s); is != x.want || e != api.OK {
			t.Error(i, is, e)
		}
	}
	both := map[bool]int{}
	for _, s := range some(300, 4, 6) {
		want := len(truthsOf(s)) > 0
		both[want]++
		if is, e := level.Possible(s); is != want || e != api.OK {
			t.Error(s, is, e)
		}
	}
	if both[false] < 30 || both[true] < 30 {
		t.Error("too few surveys of either kind", both)
	}
	for i, s := range wrongSurveys() {
		if is, e := level.Possible(s); is || e != api.ErrArg {
			t.Error(i, is, e)
		}
	}
}

// P1.2: the chapter's examples, ends of the numbers, and errors in their order.
func TestBounds(t *testing.T) {
	for i, x := range []struct {
		s        api.LevelSurvey
		from, to int
		want     api.Span
		e        api.Errno
	}{
		{surveyS(), 0, 3, span(13, 17), api.OK},
		{surveyS(), 3, 0, span(-17, -13), api.OK},
		{surveyS(), 0, 2, span(5, 9), api.OK},
		{surveyS(), 2, 1, span(2, 6), api.OK},
		{surveyS(), 3, 3, span(0, 0), api.OK},
		{parted(), 0, 2, span(-6, -4), api.OK},
		{parted(), 1, 3, span(8, 8), api.OK},
		{parted(), 4, 4, span(0, 0), api.OK},
		{full(), 0, 7, span(6650, 7350), api.OK},
		{full(), 7, 0, span(-7350, -6650), api.OK},
		{parted(), 0, 1, span(0, 0), api.ErrNone},
		{parted(), 2, 3, span(0, 0), api.ErrNone},
		{parted(), 4, 0, span(0, 0), api.ErrNone},
		{surveyT(), 0, 0, span(0, 0), api.ErrRule},
		{survey(4, sight(0, 1, 0, 0), sight(0, 1, 1, 0)), 2, 3, span(0, 0), api.ErrRule},
		{survey(4, sight(0, 1, 0, 0), sight(0, 1, 1, 0)), 2, 2, span(0, 0), api.ErrRule},
		{surveyT(), 0, 4, span(0, 0), api.ErrArg},
		{surveyT(), -1, 0, span(0, 0), api.ErrArg},
		{surveyS(), 4, 0, span(0, 0), api.ErrArg},
		{surveyS(), 4, 4, span(0, 0), api.ErrArg},
		{surveyS(), 0, -1, span(0, 0), api.ErrArg},
		{surveyS(), huge, -huge - 1, span(0, 0), api.ErrArg},
	} {
		if y, e := level.Bounds(x.s, x.from, x.to); y != x.want || e != x.e {
			t.Error(i, y, e)
		}
	}
	for i, s := range wrongSurveys() {
		if y, e := level.Bounds(s, 0, 1); y != span(0, 0) || e != api.ErrArg {
			t.Error(i, y, e)
		}
	}
}

// P1.2, P0.1: whatever is true, a rise lies within its bounds, and both ends are reached.
func TestBoundsAreReached(t *testing.T) {
	possible(some(300, 4, 5), func(s api.LevelSurvey, truths [][]int) {
		bases := basesOf(s)
		for from := range s.Stations {
			for to := range s.Stations {
				want, f := spanOf(truths, from, to), api.OK
				if bases[from] != bases[to] {
					want, f = span(0, 0), api.ErrNone
				}
				if y, e := level.Bounds(s, from, to); y != want || e != f {
					t.Error(s, from, to, y, e)
				}
			}
		}
	})
}

// P1.2: Heights of the chapter, of parts, and errors.
func TestHeights(t *testing.T) {
	for i, x := range []struct {
		s           api.LevelSurvey
		least, most []int
		e           api.Errno
	}{
		{surveyS(), list(0, 9, 5, 13), list(0, 11, 9, 17), api.OK},
		{parted(), list(0, 0, -6, 8, 0), list(0, 0, -4, 8, 0), api.OK},
		{survey(2), list(0, 0), list(0, 0), api.OK},
		{survey(3, sight(2, 1, 3, 1)), list(0, 0, -4), list(0, 0, -2), api.OK},
		{full(), list(0, 950, 1900, 2850, 3800, 4750, 5700, 6650), list(0, 1050, 2100, 3150, 4200, 5250, 6300, 7350), api.OK},
		{surveyT(), nil, nil, api.ErrRule},
	} {
		least, most, e := level.Heights(x.s)
		if !slices.Equal(least, x.least) || !slices.Equal(most, x.most) || e != x.e {
			t.Error(i, least, most, e)
		}
	}
	for i, s := range wrongSurveys() {
		if least, most, e := level.Heights(s); len(least) > 0 || len(most) > 0 || e != api.ErrArg {
			t.Error(i, least, most, e)
		}
	}
}

// P1.2: the least rises from the bases are heights that fit, all at once, and so are the greatest.
func TestHeightsFit(t *testing.T) {
	possible(some(300, 4, 5), func(s api.LevelSurvey, truths [][]int) {
		least, most, e := level.Heights(s)
		if e != api.OK || len(least) != s.Stations || len(most) != s.Stations {
			t.Fatal(s, least, most, e)
		}
		for at, base := range basesOf(s) {
			if want := spanOf(truths, base, at); span(least[at], most[at]) != want {
				t.Error(s, at, least, most, want)
			}
		}
		for _, heights := range [][]int{least, most} {
			if fits, e := level.Fits(s, heights); !fits || e != api.OK {
				t.Error(s, heights, e)
			}
		}
	})
}

// P1.10: one more sight never makes bounds wider, a greater Off never narrower, and a turned sight changes none.
func TestConsequences(t *testing.T) {
	for _, s := range some(300, 4, 5) {
		for i, x := range s.Sights {
			fewer := survey(s.Stations, slices.Delete(slices.Clone(s.Sights), i, i+1)...)
			holds(t, fewer, s, false)
			worse := survey(s.Stations, slices.Clone(s.Sights)...)
			worse.Sights[i].Off++
			holds(t, worse, s, false)
			turned := survey(s.Stations, slices.Clone(s.Sights)...)
			turned.Sights[i] = sight(x.To, x.From, -x.Rise, x.Off)
			holds(t, turned, s, true)
			holds(t, s, turned, true)
		}
	}
}

// holds complains if some bounds of the second survey are not within those of
// the first one (or, if both should know as much, are others).
func holds(t *testing.T, wide, narrow api.LevelSurvey, same bool) {
	t.Helper()
	for from := range wide.Stations {
		for to := range wide.Stations {
			a, e := level.Bounds(wide, from, to)
			b, f := level.Bounds(narrow, from, to)
			if same && (a != b || e != f) {
				t.Error(wide, narrow, from, to, a, b, e, f)
			}
			if e == api.ErrRule && f != api.ErrRule || e == api.OK && f == api.ErrNone {
				t.Error(wide, narrow, from, to, e, f)
			}
			if e == api.OK && f == api.OK && (b.Low < a.Low || b.High > a.High) {
				t.Error(wide, narrow, from, to, a, b)
			}
		}
	}
}
