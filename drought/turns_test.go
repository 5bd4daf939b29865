package drought_test

import (
	"math/rand/v2"
	"slices"
	"testing"

	"quinaria/api"
	"quinaria/drought"
)

// samePlan reports whether two plans are the same value.
func samePlan(a, b [][]int) bool { return slices.EqualFunc(a, b, slices.Equal) }

// wrongPlans are lists that are no plans of the tree t.
func wrongPlans() [][][]int {
	return [][][]int{
		make([][]int, 11), lists(list(4)), lists(list(-1)), lists(list(0, 4)), lists(list(1), list(2, 1)), lists(list(1, 1)), lists(list(1), nil, list(-1, 1)), lists(list(0, 1, 2, 3, 4)),
		lists(list(1, 3, 2)), lists(list(huge)), lists(list(-huge - 1)), make([][]int, 100000), lists(make([]int, 100000)), slices.Repeat(lists(list(1)), 11),
	}
}

// P7.6: the chapter's example, no days, days on which nobody runs, and the most days.
func TestTurns(t *testing.T) {
	for i, x := range []struct {
		t    api.DroughtTree
		days int
		want [][]int
	}{
		{treeT(), 3, lists(list(1), list(2, 3), list(1))}, {treeT(), 0, nil}, {smallTree(), 2, lists(list(0), list(0))}, {flooded(smallTree(), 0), 2, lists(nil, nil)},
		{fullTree(), 10, lists(list(0), list(1), list(2), list(3), list(4), list(5), list(6), list(7), list(0), list(1))},
		{twinTree(), 5, lists(list(0, 1), list(2, 3), list(0, 1), list(2, 3), list(0, 1))},
		{flooded(twinTree(), 5), 5, lists(list(0), list(1), list(2), list(3), list(0))},
		{tree(9, nodes(0, 9), 1, 3, 2, 1, 6, 1, 0, 9, 1, 1, 3, 0), 4, lists(list(1, 3), list(2), list(0, 3), list(0, 1))},
		{dryTree(), 3, lists(nil, nil, nil)}, {bareTree(), 2, lists(list(0, 2), list(1, 2))},
	} {
		if y, e := drought.Turns(x.t, x.days); !samePlan(y, x.want) || e != api.OK {
			t.Error(i, y, e)
		}
	}
}

// P7.6: trees of all kinds; the plan of turns fits, and who can run alone runs on so many days.
func TestTurnsEach(t *testing.T) {
	r := rand.New(rand.NewPCG(7, 13))
	for _, x := range someTrees(r, 400) {
		for days := range api.DroughtDays + 1 {
			y, e := drought.Turns(x, days)
			if !samePlan(y, turnsOf(x, days)) || e != api.OK {
				t.Error(x, days, y, e)
			}
			if runs, e := drought.Runs(x, y); !runs || e != api.OK {
				t.Error(x, days, y, runs, e)
			}
			for i, ran := range daysOf(x, y) {
				alone, _ := drought.Runs(x, lists(list(i)))
				if alone && ran < days/len(x.Outlets) || !alone && ran > 0 {
					t.Error(x, days, y, i, ran)
				}
			}
		}
	}
}

// P7.6: the chapter's example, and plans of several days.
func TestRuns(t *testing.T) {
	for i, x := range []struct {
		t    api.DroughtTree
		plan [][]int
		want bool
	}{
		{treeT(), lists(list(1, 2)), false}, {treeT(), nil, true}, {treeT(), lists(nil), true}, {treeT(), make([][]int, 10), true}, {treeT(), lists(list(1), list(2, 3), list(1)), true},
		{treeT(), lists(list(0)), false}, {treeT(), lists(list(1), list(0)), false}, {treeT(), lists(list(0), list(1)), false}, {treeT(), lists(list(1), list(1, 3)), false}, {treeT(), lists(list(3)), true},
		{treeT(), slices.Repeat(lists(list(2, 3)), 10), true}, {treeT(), append(slices.Repeat(lists(list(2, 3)), 9), list(1, 2, 3)), false}, {treeU(), lists(list(1, 2)), true},
		{fullTree(), lists(list(7), list(0)), true}, {fullTree(), lists(list(0, 7)), false}, {bareTree(), lists(list(1, 2)), true}, {bareTree(), lists(list(0, 1)), false}, {dryTree(), lists(list(0)), false},
	} {
		if y, e := drought.Runs(x.t, x.plan); y != x.want || e != api.OK {
			t.Error(i, y, e)
		}
	}
}

// P7.6: all days of trees of all kinds, and plans of several days.
func TestRunsEach(t *testing.T) {
	r := rand.New(rand.NewPCG(7, 14))
	fit := 0
	for _, x := range someTrees(r, 300) {
		for bits := range 1 << len(x.Outlets) {
			day := dayOf(bits)
			if y, e := drought.Runs(x, lists(day)); y != isRunning(x, day) || e != api.OK {
				t.Error(x, day, y, e)
			}
		}
		plan := somePlan(r, x, 10)
		want := !slices.ContainsFunc(plan, func(day []int) bool { return !isRunning(x, day) })
		if y, e := drought.Runs(x, plan); y != want || e != api.OK {
			t.Error(x, plan, y, e)
		}
		if want && len(slices.Concat(plan...)) > 0 {
			fit++
		}
	}
	if fit < 100 {
		t.Error("too few that fit", fit)
	}
}

// replaced returns a day on which an outlet runs in place of another one.
func replaced(day []int, rests, runs int) []int {
	changed := append(slices.DeleteFunc(slices.Clone(day), func(i int) bool { return i == rests }), runs)
	slices.Sort(changed)
	return changed
}

// exchanged returns a plan after an exchange.
func exchanged(plan [][]int, first, second, one, other int) [][]int {
	changed := slices.Clone(plan)
	changed[first], changed[second] = replaced(plan[first], one, other), replaced(plan[second], other, one)
	return changed
}

// swapOf returns an exchange of two outlets in a plan that fits, and whether there is one.
func swapOf(t api.DroughtTree, plan [][]int, one, other int) (int, int, bool) {
	runs := func(day, outlet int) bool { return slices.Contains(plan[day], outlet) }
	for first := range plan {
		for second := range plan {
			if !runs(first, one) || runs(second, one) || !runs(second, other) || runs(first, other) {
				continue
			}
			if !slices.ContainsFunc(exchanged(plan, first, second, one, other), func(day []int) bool { return !isRunning(t, day) }) {
				return first, second, true
			}
		}
	}
	return 0, 0, false
}

// P7.6: the chapter's examples; of several exchanges the one with the least first day, then with the least second one.
func TestSwaps(t *testing.T) {
	wide := tree(200, nil, 0, 1, 0, 0, 1, 0, 0, 1, 0)
	for i, x := range []struct {
		t          api.DroughtTree
		plan       [][]int
		one, other int
		want       []int
	}{
		{treeT(), lists(list(1), list(3)), 1, 3, list(0, 1)}, {treeT(), lists(list(1), list(2, 3)), 1, 2, nil}, {treeT(), lists(list(1), list(3)), 3, 1, list(1, 0)}, {treeT(), lists(list(1), list(2, 3)), 2, 1, nil},
		{wide, nil, 0, 1, nil}, {wide, lists(list(0, 1)), 0, 1, nil}, {wide, lists(list(0, 1), list(0, 1)), 0, 1, nil}, {wide, lists(list(0), list(0, 1)), 0, 1, nil}, {wide, lists(list(0), list(2)), 0, 1, nil},
		{wide, lists(list(0, 1), list(1)), 0, 1, nil}, {wide, lists(list(0), nil, list(1, 2)), 0, 1, list(0, 2)}, {wide, lists(list(1), list(0), list(1), list(0)), 0, 1, list(1, 0)},
		{wide, lists(list(1), list(0), list(1), list(0)), 1, 0, list(0, 1)}, {wide, lists(list(0, 1), list(0), list(2), list(1, 2), list(1)), 0, 1, list(1, 3)},
		// The first days are passed over if too much flows then on one of both.
		{tree(5, nil, 0, 2, 0, 0, 4, 0, 0, 3, 0), lists(list(0, 2), list(1), list(0)), 0, 1, list(2, 1)},
		{tree(5, nil, 0, 2, 0, 0, 4, 0, 0, 1, 0), lists(list(0, 2), list(1), list(0), list(1, 2)), 0, 1, list(0, 1)},
		{tree(5, nil, 0, 2, 0, 0, 3, 0, 0, 3, 0), lists(list(0, 2), list(1), list(0), list(1), list(2)), 0, 1, list(2, 1)},
	} {
		y, z, e := drought.Swaps(x.t, x.plan, x.one, x.other)
		if x.want == nil && (y != 0 || z != 0 || e != api.ErrNone) || x.want != nil && (y != x.want[0] || z != x.want[1] || e != api.OK) {
			t.Error(i, y, z, e)
		}
	}
}

// P7.6: all outlets in plans of trees of all kinds; after an exchange each outlet runs on as many days as before.
func TestSwapsEach(t *testing.T) {
	r := rand.New(rand.NewPCG(7, 15))
	some, late, none, misfits := 0, 0, 0, 0
	for _, x := range someTrees(r, 1500) {
		plan := somePlan(r, x, 6)
		fits, _ := drought.Runs(x, plan)
		for one := range x.Outlets {
			for other := range x.Outlets {
				first, second, e := drought.Swaps(x, plan, one, other)
				if one == other || !fits {
					misfits++
					if first != 0 || second != 0 || e != api.ErrArg {
						t.Error(x, plan, one, other, first, second, e)
					}
					continue
				}
				wantFirst, wantSecond, found := swapOf(x, plan, one, other)
				if first != wantFirst || second != wantSecond || found && e != api.OK || !found && e != api.ErrNone {
					t.Error(x, plan, one, other, first, second, e)
				}
				if !found {
					none++
					continue
				}
				some++
				if first > 0 && second > 0 {
					late++
				}
				after := exchanged(plan, first, second, one, other)
				if runs, e := drought.Runs(x, after); !runs || e != api.OK || !slices.Equal(daysOf(x, plan), daysOf(x, after)) {
					t.Error(x, plan, one, other, after, runs, e)
				}
			}
		}
	}
	if some < 300 || late < 100 || none < 1000 || misfits < 1000 {
		t.Error("too few of a kind", some, late, none, misfits)
	}
}

// P7.6: trees, days, plans and outlets that are none, a plan that does not fit, and one outlet twice.
func TestTurnsWrong(t *testing.T) {
	for _, x := range wrongTrees() {
		if y, e := drought.Turns(x, 1); len(y) > 0 || e != api.ErrArg {
			t.Error(x, y, e)
		}
		if y, e := drought.Runs(x, nil); y || e != api.ErrArg {
			t.Error(x, y, e)
		}
		if y, z, e := drought.Swaps(x, nil, 0, 1); y != 0 || z != 0 || e != api.ErrArg {
			t.Error(x, y, z, e)
		}
	}
	for _, days := range list(-1, 11, huge, -huge-1) {
		if y, e := drought.Turns(treeT(), days); len(y) > 0 || e != api.ErrArg {
			t.Error(days, y, e)
		}
	}
	for i, plan := range wrongPlans() {
		if y, e := drought.Runs(treeT(), plan); y || e != api.ErrArg {
			t.Error(i, y, e)
		}
		if y, z, e := drought.Swaps(treeT(), plan, 1, 3); y != 0 || z != 0 || e != api.ErrArg {
			t.Error(i, y, z, e)
		}
	}
	swaps := func(plan [][]int, one, other int) {
		if y, z, e := drought.Swaps(treeT(), plan, one, other); y != 0 || z != 0 || e != api.ErrArg {
			t.Error(plan, one, other, y, z, e)
		}
	}
	right := lists(list(1), list(3))
	for _, outlet := range wrongOutlets(treeT()) {
		swaps(right, outlet, 3)
		swaps(right, 1, outlet)
		swaps(right, outlet, outlet)
	}
	swaps(right, 1, 1)
	swaps(nil, 0, 0)
	for _, plan := range [][][]int{lists(list(1), list(3), list(0)), lists(list(1, 2), list(3)), lists(list(1, 3), list(2))} {
		swaps(plan, 1, 3)
	}
}
