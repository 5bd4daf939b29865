package level_test

import (
	"math/rand/v2"
	"slices"
	"testing"

	"quinaria/api"
	"quinaria/level"
)

// P1.5: words of single legs, to the ends of their bounds, and errors in their order.
func TestFalls(t *testing.T) {
	far := survey(2, sight(1, 0, 1000, 0))
	for i, x := range []struct {
		s           api.LevelSurvey
		leg         api.LevelLeg
		least, most int
		want        api.LevelWord
		e           api.Errno
	}{
		{surveyS(), leg(1, 2, 2), 1, 3, api.LevelSurely, api.OK},
		{surveyS(), leg(1, 2, 2), 2, 3, api.LevelMay, api.OK},
		{surveyS(), leg(1, 2, 2), 1, 2, api.LevelMay, api.OK},
		{surveyS(), leg(1, 2, 2), 2, 2, api.LevelMay, api.OK},
		{surveyS(), leg(1, 2, 2), 4, 5, api.LevelNever, api.OK},
		{surveyS(), leg(1, 2, 2), 3, 5, api.LevelMay, api.OK},
		{surveyS(), leg(1, 2, 2), 0, 0, api.LevelNever, api.OK},
		{surveyS(), leg(1, 2, 2), 0, 1, api.LevelMay, api.OK},
		{surveyS(), leg(1, 2, 1), 2, 6, api.LevelSurely, api.OK},
		{surveyS(), leg(1, 2, 1), 3, 6, api.LevelMay, api.OK},
		{surveyS(), leg(1, 2, 1), 2, 5, api.LevelMay, api.OK},
		{surveyS(), leg(1, 2, 1), 0, 20, api.LevelSurely, api.OK},
		{surveyS(), leg(2, 1, 1), 0, 20, api.LevelNever, api.OK},
		{far, leg(0, 1, 100), 10, 10, api.LevelSurely, api.OK},
		{far, leg(0, 1, 50), 20, 20, api.LevelSurely, api.OK},
		{far, leg(0, 1, 49), 0, 20, api.LevelNever, api.OK},
		{far, leg(1, 0, 100), 0, 20, api.LevelNever, api.OK},
		{parted(), leg(0, 1, 1), 0, 5, 0, api.ErrNone},
		{surveyT(), leg(0, 1, 1), 0, 5, 0, api.ErrRule},
		{survey(4, sight(0, 1, 0, 0), sight(0, 1, 1, 0)), leg(2, 3, 1), 0, 5, 0, api.ErrRule},
		{surveyT(), leg(0, 1, 1), 5, 4, 0, api.ErrArg},
		{parted(), leg(0, 1, 0), 0, 5, 0, api.ErrArg},
		{surveyS(), leg(1, 1, 1), 0, 5, 0, api.ErrArg},
		{surveyS(), leg(1, 4, 1), 0, 5, 0, api.ErrArg},
		{surveyS(), leg(4, 1, 1), 0, 5, 0, api.ErrArg},
		{surveyS(), leg(-1, 1, 1), 0, 5, 0, api.ErrArg},
		{surveyS(), leg(1, -1, 1), 0, 5, 0, api.ErrArg},
		{surveyS(), leg(1, 2, 0), 0, 5, 0, api.ErrArg},
		{surveyS(), leg(1, 2, -1), 0, 5, 0, api.ErrArg},
		{surveyS(), leg(1, 2, 101), 0, 5, 0, api.ErrArg},
		{surveyS(), leg(1, 2, huge), 0, 5, 0, api.ErrArg},
		{surveyS(), leg(1, 2, 1), 0, 21, 0, api.ErrArg},
		{surveyS(), leg(1, 2, 1), 21, 21, 0, api.ErrArg},
		{surveyS(), leg(1, 2, 1), -1, 4, 0, api.ErrArg},
		{surveyS(), leg(1, 2, 1), -2, -1, 0, api.ErrArg},
		{surveyS(), leg(1, 2, 1), 3, 2, 0, api.ErrArg},
		{surveyS(), leg(1, 2, 1), -huge - 1, huge, 0, api.ErrArg},
	} {
		if w, e := level.Falls(x.s, x.leg, x.least, x.most); w != x.want || e != x.e {
			t.Error(i, w, e)
		}
		if w, e := level.Carries(x.s, []api.LevelLeg{x.leg}, x.least, x.most); w != x.want || e != x.e {
			t.Error(i, "of one leg", w, e)
		}
	}
	for i, s := range wrongSurveys() {
		if w, e := level.Falls(s, leg(0, 1, 1), 0, 5); w != 0 || e != api.ErrArg {
			t.Error(i, w, e)
		}
		if w, e := level.Carries(s, []api.LevelLeg{leg(0, 1, 1)}, 0, 5); w != 0 || e != api.ErrArg {
			t.Error(i, w, e)
		}
	}
}

// P1.5: legs must fall rightly in one and the same truth.
func TestCarries(t *testing.T) {
	legs := func(x ...api.LevelLeg) []api.LevelLeg { return x }
	for i, x := range []struct {
		s           api.LevelSurvey
		legs        []api.LevelLeg
		least, most int
		want        api.LevelWord
		e           api.Errno
	}{
		{surveyS(), legs(leg(1, 2, 2), leg(2, 1, 1)), 0, 3, api.LevelNever, api.OK},
		{surveyS(), legs(leg(1, 2, 2)), 1, 3, api.LevelSurely, api.OK},
		{surveyS(), legs(leg(1, 2, 2), leg(1, 2, 1)), 1, 6, api.LevelSurely, api.OK},
		{surveyS(), legs(leg(1, 2, 2), leg(1, 2, 1)), 2, 6, api.LevelMay, api.OK},
		// Each of both can fall so, but not both at once: 5 or 6 from 3 to 2 and from 2 to 0 are 12 at most, and 13 are the least.
		{surveyS(), legs(leg(3, 2, 1), leg(2, 0, 1)), 5, 6, api.LevelNever, api.OK},
		{surveyS(), legs(leg(3, 2, 1), leg(2, 0, 1)), 5, 7, api.LevelMay, api.OK},
		// The second one alone would be sure.
		{surveyS(), legs(leg(3, 2, 2), leg(1, 2, 2)), 1, 3, api.LevelMay, api.OK},
		{surveyS(), legs(leg(1, 2, 2), leg(3, 2, 2)), 1, 3, api.LevelMay, api.OK},
		{surveyS(), slices.Repeat(legs(leg(1, 2, 2)), 6), 1, 3, api.LevelSurely, api.OK},
		{surveyS(), slices.Repeat(legs(leg(1, 2, 2)), 7), 1, 3, 0, api.ErrArg},
		{surveyS(), nil, 1, 3, 0, api.ErrArg},
		{surveyS(), legs(leg(1, 2, 2), leg(1, 2, 0)), 1, 3, 0, api.ErrArg},
		{parted(), legs(leg(2, 0, 1), leg(0, 1, 1)), 0, 3, 0, api.ErrNone},
		{parted(), legs(leg(0, 1, 1), leg(2, 0, 1)), 0, 3, 0, api.ErrNone},
		{parted(), legs(leg(0, 1, 1), leg(2, 0, 101)), 0, 3, 0, api.ErrArg},
		{parted(), legs(leg(0, 2, 1), leg(3, 1, 1)), 0, 20, api.LevelSurely, api.OK},
		{surveyT(), legs(leg(0, 1, 1), leg(2, 0, 1)), 0, 3, 0, api.ErrRule},
	} {
		if w, e := level.Carries(x.s, x.legs, x.least, x.most); w != x.want || e != x.e {
			t.Error(i, w, e)
		}
	}
}

// wordOf returns in how many of some truths all legs fall rightly.
func wordOf(truths [][]int, legs []api.LevelLeg, least, most int) api.LevelWord {
	right := 0
	for _, heights := range truths {
		wrong := slices.ContainsFunc(legs, func(x api.LevelLeg) bool {
			fall := heights[x.From] - heights[x.To]
			return fall < x.Long*least || fall > x.Long*most
		})
		if !wrong {
			right++
		}
	}
	switch right {
	case 0:
		return api.LevelNever
	case len(truths):
		return api.LevelSurely
	}
	return api.LevelMay
}

// P1.5: the word is that of all truths.
func TestCarriesInTruths(t *testing.T) {
	r := rand.New(rand.NewPCG(5, 5))
	words := map[api.LevelWord]int{}
	possible(some(400, 4, 4), func(s api.LevelSurvey, truths [][]int) {
		bases := basesOf(s)
		var legs []api.LevelLeg
		for range 1 + r.IntN(3) {
			x := leg(r.IntN(s.Stations), r.IntN(s.Stations), 1+r.IntN(2))
			if x.From != x.To && bases[x.From] == bases[x.To] {
				legs = append(legs, x)
			}
		}
		if len(legs) == 0 {
			return
		}
		least := r.IntN(2)
		most := least + r.IntN(5)
		want := wordOf(truths, legs, least, most)
		words[want]++
		if w, e := level.Carries(s, legs, least, most); w != want || e != api.OK {
			t.Error(s, legs, least, most, w, e)
		}
		want = wordOf(truths, legs[:1], least, most)
		if w, e := level.Falls(s, legs[0], least, most); w != want || e != api.OK {
			t.Error(s, legs[0], least, most, w, e)
		}
	})
	for w := api.LevelNever; w <= api.LevelSurely; w++ {
		if words[w] < 10 {
			t.Error("too few of a word", words)
		}
	}
}

// P1.6: where heads meet, and the best Fall, with errors in their order.
func TestMeetsAndDrives(t *testing.T) {
	deep := survey(2, sight(1, 0, 1000, 50))
	for i, x := range []struct {
		s           api.LevelSurvey
		t           api.LevelTunnel
		want        api.Span
		fall, bound int
		e           api.Errno
	}{
		{surveyS(), tunnel(3, 0, 5, 3, 1), span(-7, 7), 3, 7, api.OK},
		{surveyS(), tunnel(3, 0, 5, 20, 1), span(-92, -78), 3, 7, api.OK},
		{surveyS(), tunnel(3, 0, 5, 0, 0), span(13, 17), 3, 2, api.OK},
		{surveyS(), tunnel(3, 0, 5, 0, 5), span(-12, 42), 3, 27, api.OK},
		{surveyS(), tunnel(0, 3, 5, 3, 1), span(-37, -23), 0, 22, api.OK},
		{surveyS(), tunnel(1, 2, 1, 4, 0), span(-2, 2), 4, 2, api.OK},
		// A Fall of 1 makes 0 to 4, one of 2 makes -2 to 2, one of 3 -4 to 0.
		{surveyS(), tunnel(3, 1, 2, 0, 0), span(2, 6), 2, 2, api.OK},
		// A Fall of 0 makes 2 to 6, and one of 1 -6 to -2: the lesser one.
		{surveyS(), tunnel(1, 2, 8, 1, 0), span(-6, -2), 0, 6, api.OK},
		{deep, tunnel(0, 1, 100, 20, 5), span(-1550, -450), 10, 550, api.OK},
		{deep, tunnel(0, 1, 1, 0, 0), span(950, 1050), 20, 1030, api.OK},
		{deep, tunnel(1, 0, 100, 20, 5), span(-3550, -2450), 0, 1550, api.OK},
		{parted(), tunnel(0, 1, 1, 0, 0), span(0, 0), 0, 0, api.ErrNone},
		{surveyT(), tunnel(0, 1, 1, 0, 0), span(0, 0), 0, 0, api.ErrRule},
		{survey(4, sight(0, 1, 0, 0), sight(0, 1, 1, 0)), tunnel(2, 3, 1, 0, 0), span(0, 0), 0, 0, api.ErrRule},
		{surveyT(), tunnel(0, 0, 1, 0, 0), span(0, 0), 0, 0, api.ErrArg},
		{parted(), tunnel(0, 1, 0, 0, 0), span(0, 0), 0, 0, api.ErrArg},
		{surveyS(), tunnel(0, 1, 101, 0, 0), span(0, 0), 0, 0, api.ErrArg},
		{surveyS(), tunnel(0, 1, 1, 21, 0), span(0, 0), 0, 0, api.ErrArg},
		{surveyS(), tunnel(0, 1, 1, -1, 0), span(0, 0), 0, 0, api.ErrArg},
		{surveyS(), tunnel(0, 1, 1, 0, 6), span(0, 0), 0, 0, api.ErrArg},
		{surveyS(), tunnel(0, 1, 1, 0, -1), span(0, 0), 0, 0, api.ErrArg},
		{surveyS(), tunnel(4, 1, 1, 0, 0), span(0, 0), 0, 0, api.ErrArg},
		{surveyS(), tunnel(0, 4, 1, 0, 0), span(0, 0), 0, 0, api.ErrArg},
		{surveyS(), tunnel(-1, 0, 1, 0, 0), span(0, 0), 0, 0, api.ErrArg},
		{surveyS(), tunnel(0, -1, 1, 0, 0), span(0, 0), 0, 0, api.ErrArg},
		{surveyS(), tunnel(0, 1, huge, huge, huge), span(0, 0), 0, 0, api.ErrArg},
	} {
		if y, e := level.Meets(x.s, x.t); y != x.want || e != x.e {
			t.Error(i, y, e)
		}
		if fall, bound, e := level.Drives(x.s, x.t); fall != x.fall || bound != x.bound || e != x.e {
			t.Error(i, fall, bound, e)
		}
	}
	for i, s := range wrongSurveys() {
		if y, e := level.Meets(s, tunnel(0, 1, 1, 0, 0)); y != span(0, 0) || e != api.ErrArg {
			t.Error(i, y, e)
		}
		if fall, bound, e := level.Drives(s, tunnel(0, 1, 1, 0, 0)); fall != 0 || bound != 0 || e != api.ErrArg {
			t.Error(i, fall, bound, e)
		}
	}
}

// P1.6, P0.1: whatever is true, heads meet within the bounds, both ends are reached, and no other Fall has a lesser bound.
func TestNoFallIsBetter(t *testing.T) {
	r := rand.New(rand.NewPCG(6, 6))
	possible(some(300, 4, 5), func(s api.LevelSurvey, truths [][]int) {
		x := tunnel(r.IntN(s.Stations), r.IntN(s.Stations), 1+r.IntN(4), r.IntN(21), r.IntN(3))
		if bases := basesOf(s); x.From == x.To || bases[x.From] != bases[x.To] {
			return
		}
		falls := spanOf(truths, x.To, x.From)
		meets := func(fall int) api.Span {
			return span(falls.Low-x.Long*fall-x.Long*x.Err, falls.High-x.Long*fall+x.Long*x.Err)
		}
		if y, e := level.Meets(s, x); y != meets(x.Fall) || e != api.OK {
			t.Error(s, x, y, e)
		}
		right, least := 0, huge
		for fall := range 21 {
			y := meets(fall)
			if bound := max(y.Low, -y.Low, y.High, -y.High); bound < least {
				right, least = fall, bound
			}
		}
		if fall, bound, e := level.Drives(s, x); fall != right || bound != least || e != api.OK {
			t.Error(s, x, fall, bound, e)
		}
	})
}
