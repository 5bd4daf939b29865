package level_test

import (
	"reflect"
	"slices"
	"testing"

	"quinaria/api"
	"quinaria/level"
)

// answers returns what all functions return for some arguments.
func answers(s api.LevelSurvey, a, b, c int) []any {
	heights := []int{a, b, c}
	ring := []api.LevelStep{{Sight: a}, {Sight: b, Back: true}, {Sight: c}}
	x := leg(a, b, c)
	tries := []api.LevelTry{try(a, b, c), try(b, a, a)}
	fits, e0 := level.Fits(s, heights)
	can, e1 := level.Possible(s)
	bounds, e2 := level.Bounds(s, a, b)
	low, high, e3 := level.Heights(s)
	isRing, e4 := level.IsRing(s, ring)
	shortest, e5 := level.Ring(s)
	least, even, e6 := level.Least(s)
	falls, e7 := level.Falls(s, x, b, c)
	carries, e8 := level.Carries(s, []api.LevelLeg{x, x}, b, c)
	meets, e9 := level.Meets(s, tunnel(a, b, c, b, c))
	fall, bound, e10 := level.Drives(s, tunnel(a, b, c, b, c))
	at, width, e11 := level.Takes(s, a, b, tries)
	drops, e12 := level.Drops(s)
	blames, e13 := level.Blames(s)
	text, e14 := level.Print(s)
	read, e15 := level.Read(text)
	return []any{
		level.Check(s), fits, e0, can, e1, bounds, e2, low, high, e3, isRing, e4, shortest, e5, least, even, e6, falls, e7,
		carries, e8, meets, e9, fall, bound, e10, at, width, e11, drops, e12, blames, e13, text, e14, read, e15,
	}
}

func ourSurveys() []api.LevelSurvey {
	return append(wrongSurveys(), surveyS(), surveyT(), surveyU(), parted(), full(), survey(2), survey(8), around(), contrary())
}

// P0.1: every function answers, whatever the arguments are.
func TestAnyValue(t *testing.T) {
	values := []int{-huge - 1, -1000, -1, 0, 1, 2, 3, 7, 8, 20, 50, 51, 101, 20001, huge - 1, huge}
	for _, s := range ourSurveys() {
		for _, a := range values {
			for _, b := range values {
				answers(s, a, b, values[(a&7+b&7)%len(values)])
			}
		}
	}
}

// R4, R8: no argument is changed, no result shares memory with another one, and equal calls have equal results.
func TestNothingIsKept(t *testing.T) {
	for _, s := range ourSurveys() {
		before := survey(s.Stations, slices.Clone(s.Sights)...)
		first := answers(s, 0, 1, 2)
		again := answers(s, 0, 1, 2)
		if !sameSurvey(s, before) || !reflect.DeepEqual(first, again) {
			t.Error(s, before)
		}
		for _, x := range first {
			spoil(x)
		}
		if !sameSurvey(s, before) || !reflect.DeepEqual(again, answers(s, 0, 1, 2)) {
			t.Error("results share memory", s, before)
		}
	}
}

// spoil overwrites the memory of a result.
func spoil(x any) {
	switch y := x.(type) {
	case []int:
		for i := range y {
			y[i] = -77
		}
	case []api.LevelStep:
		for i := range y {
			y[i] = api.LevelStep{Sight: 77}
		}
	case api.LevelSurvey:
		for i := range y.Sights {
			y.Sights[i] = api.LevelSight{}
		}
	}
}

// R4: the two lists of Heights share no memory.
func TestListsAreApart(t *testing.T) {
	least, most, _ := level.Heights(parted())
	for i := range least {
		least[i] = -77
	}
	if !slices.Equal(most, list(0, 0, -4, 8, 0)) {
		t.Error(most)
	}
	if cap(least) > len(least) {
		least = append(least, 5)
		if slices.Contains(most, 5) {
			t.Error(most)
		}
	}
}

// R3: nil and empty lists are the same.
func TestNilAndEmpty(t *testing.T) {
	a, b := api.LevelSurvey{Stations: 3}, api.LevelSurvey{Stations: 3, Sights: []api.LevelSight{}}
	if !reflect.DeepEqual(answers(a, 0, 1, 2), answers(b, 0, 1, 2)) {
		t.Error(answers(b, 0, 1, 2))
	}
	if is, e := level.IsRing(surveyT(), []api.LevelStep{}); is || e != api.OK {
		t.Error(is, e)
	}
	if w, e := level.Carries(surveyS(), []api.LevelLeg{}, 0, 1); w != 0 || e != api.ErrArg {
		t.Error(w, e)
	}
	if at, width, e := level.Takes(surveyS(), 0, 1, []api.LevelTry{}); at != 0 || width != 0 || e != api.ErrArg {
		t.Error(at, width, e)
	}
}
