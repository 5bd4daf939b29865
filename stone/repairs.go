package stone

import (
	"slices"

	"quinaria/api"
)

// CheckWork returns the error of a work.
func CheckWork(w api.StoneWork) api.Errno {
	if !isWork(w) {
		return api.ErrArg
	}
	return api.OK
}

// Time returns the time of some faults.
func Time(w api.StoneWork, faults []int) (int, api.Errno) {
	if !isWork(w) || !areFaults(w, faults) {
		return 0, api.ErrArg
	}
	return timeOf(w, faults), api.OK
}

// timeOf returns the time of some faults.
func timeOf(w api.StoneWork, faults []int) int {
	before, behind := 0, 0
	var days []int
	for _, k := range faults {
		x := w.Faults[k]
		before, behind = max(before, w.Base-x.Stone), max(behind, x.Stone-w.Base)
		days = append(days, x.Days)
	}
	// The end that is nearer is visited first: only the way back from it is gone twice.
	return sum(append(days, w.Walk*before, w.Walk*behind, w.Walk*min(before, behind))...)
}

// Crew returns the best plan, and its time.
func Crew(w api.StoneWork) ([]int, int, api.Errno) {
	if !isWork(w) {
		return nil, 0, api.ErrArg
	}
	plan, time := bestPlan(w)
	return plan, time, api.OK
}

func bestPlan(w api.StoneWork) (plan []int, time int) {
	return best(plansOf(w), func(plan []int) int { return slices.Max(timesOf(w, plan)) })
}

// plansOf returns all plans, in lexicographic order.
func plansOf(w api.StoneWork) [][]int {
	plans := [][]int{nil}
	for range w.Faults {
		var longer [][]int
		for _, plan := range plans {
			for gang := range w.Gangs {
				longer = append(longer, append(slices.Clone(plan), gang))
			}
		}
		plans = longer
	}
	return plans
}

// timesOf returns the time of the faults of each gang.
func timesOf(w api.StoneWork, plan []int) (days []int) {
	for gang := range w.Gangs {
		var faults []int
		for k, of := range plan {
			if of == gang {
				faults = append(faults, k)
			}
		}
		days = append(days, timeOf(w, faults))
	}
	return days
}

// Needs returns the least number of gangs that are done within some days.
func Needs(w api.StoneWork, days int) (int, api.Errno) {
	if !isWork(w) || !isFrom(0, longestTerm, days) {
		return 0, api.ErrArg
	}
	for w.Gangs = 1; w.Gangs <= api.StoneGangs; w.Gangs++ {
		if _, time := bestPlan(w); time <= days {
			return w.Gangs, api.OK
		}
	}
	return 0, api.ErrNone
}

// Bill returns what a plan costs.
func Bill(w api.StoneWork, plan []int, p api.StonePrices) (int, api.Errno) {
	if !isWork(w) || !isPlan(w, plan) || !arePrices(p) {
		return 0, api.ErrArg
	}
	coins := p.Wage * sum(timesOf(w, plan)...)
	for _, x := range w.Faults {
		coins += p.Lead*x.Lead + p.Tile*x.Tiles
	}
	return coins, api.OK
}
