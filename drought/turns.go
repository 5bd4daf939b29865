package drought

import (
	"cmp"
	"slices"

	"quinaria/api"
)

// Turns returns the plan of turns for some days.
func Turns(t api.DroughtTree, days int) ([][]int, api.Errno) {
	if !isTree(t) || !isFrom(0, api.DroughtDays, days) {
		return nil, api.ErrArg
	}
	ran := make([]int, len(t.Outlets))
	var plan [][]int
	for range days {
		day := nextDay(t, ran)
		for _, i := range day {
			ran[i]++
		}
		plan = append(plan, day)
	}
	return plan, api.OK
}

// nextDay returns who runs on a day, after so many days on which each outlet ran.
func nextDay(t api.DroughtTree, ran []int) (day []int) {
	s := unserved(t)
	runs := map[int]bool{}
	for _, i := range inTurn(t, ran) {
		runs[i] = attempt(func() { s.run(i) }) == api.OK
	}
	for i := range len(t.Outlets) {
		if runs[i] {
			day = append(day, i)
		}
	}
	return day
}

// inTurn returns all outlets in the order in which they are gone through, after so many days on which each one ran.
func inTurn(t api.DroughtTree, ran []int) (order []int) {
	var left []int
	for i := range len(t.Outlets) {
		left = append(left, i)
	}
	isBefore := func(i, j int) bool {
		return cmp.Or(cmp.Compare(ran[i], ran[j]), cmp.Compare(t.Outlets[i].Class, t.Outlets[j].Class)) < 0
	}
	for len(left) > 0 {
		next := best(left, isBefore)
		order = append(order, next)
		left = slices.DeleteFunc(left, func(i int) bool { return i == next })
	}
	return order
}

// best returns the first of some things, at least one, than which no other one is better.
func best[T any](things []T, better func(a, b T) bool) T {
	x := things[0]
	for _, y := range things[1:] {
		if better(y, x) {
			x = y
		}
	}
	return x
}

// run gives an outlet its Claim, or gives up if these are no shares that fit then.
func (s *served) run(outlet int) { s.give(outlet, s.Outlets[outlet].Claim) }

// Runs reports whether a plan fits.
func Runs(t api.DroughtTree, plan [][]int) (bool, api.Errno) {
	if !isTree(t) || !isPlan(t, plan) {
		return false, api.ErrArg
	}
	return canBe(t, plan), api.OK
}

// canBe reports whether a plan fits.
func canBe(t api.DroughtTree, plan [][]int) bool {
	return all(plan, func(day []int) bool { return canRun(t, day) })
}

// canRun reports whether outlets can run on one day.
func canRun(t api.DroughtTree, day []int) bool {
	s := unserved(t)
	return attempt(func() {
		for _, i := range day {
			s.run(i)
		}
	}) == api.OK
}

// Swaps returns an exchange of two outlets in a plan.
func Swaps(t api.DroughtTree, plan [][]int, one, other int) (int, int, api.Errno) {
	if !isTree(t) || !isPlan(t, plan) || !isOutlet(t, one) || !isOutlet(t, other) || one == other || !canBe(t, plan) {
		return 0, 0, api.ErrArg
	}
	for i, first := range plan {
		for j, second := range plan {
			if isIn(first, second, one) && isIn(second, first, other) && canRun(t, instead(first, one, other)) && canRun(t, instead(second, other, one)) {
				return i, j, api.OK
			}
		}
	}
	return 0, 0, api.ErrNone
}

// isIn reports whether an outlet runs on a day, and not on another one.
func isIn(day, another []int, outlet int) bool {
	return slices.Contains(day, outlet) && !slices.Contains(another, outlet)
}

// instead returns a day on which an outlet rests, and another one runs instead.
func instead(day []int, rests, runs int) []int {
	changed := slices.Clone(day)
	changed[slices.Index(day, rests)] = runs
	return changed
}
