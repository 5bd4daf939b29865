package drought_test

import (
	"reflect"
	"slices"
	"testing"

	"quinaria/api"
	"quinaria/drought"
)

// given is the arguments of all functions.
type given struct {
	t             api.DroughtTree
	shares, order []int
	plan          [][]int
	outlet, other int
	node, class   int
	cups, days    int
	low, high     int
	text          string
}

// clone returns arguments in memory of their own.
func (x given) clone() given {
	x.t = changed(x.t, func(*api.DroughtTree) {})
	x.shares, x.order, x.plan = slices.Clone(x.shares), slices.Clone(x.order), slices.Clone(x.plan)
	for i := range x.plan {
		x.plan[i] = slices.Clone(x.plan[i])
	}
	return x
}

// answer is what a function returns: up to two results, and an error.
func answer(x ...any) []any { return x }

// answers returns what all functions return for some arguments.
func answers(x given) [][]any {
	all := [][]any{{drought.Check(x.t)}}
	put := func(y any, e api.Errno) { all = append(all, answer(y, e)) }
	putTwo := func(y, z int, e api.Errno) { all = append(all, answer(y, z, e)) }
	fits, e := drought.Fits(x.t, x.shares)
	put(fits, e)
	shares, e := drought.Shares(x.t)
	put(shares, e)
	ordered, e := drought.Ordered(x.t, x.order)
	put(ordered, e)
	binds, e := drought.Binds(x.t, x.outlet, x.node)
	put(binds, e)
	why, e := drought.Why(x.t, x.outlet)
	put(why, e)
	cut, e := drought.Cut(x.t)
	put(cut, e)
	spans, e := drought.Spans(x.t, x.low, x.high)
	put(spans, e)
	needs, e := drought.Needs(x.t, x.outlet, x.cups)
	put(needs, e)
	keeps, e := drought.Keeps(x.t, x.class)
	put(keeps, e)
	widens, e := drought.Widens(x.t, x.outlet)
	put(widens, e)
	turns, e := drought.Turns(x.t, x.days)
	put(turns, e)
	runs, e := drought.Runs(x.t, x.plan)
	put(runs, e)
	putTwo(drought.Swaps(x.t, x.plan, x.outlet, x.other))
	text, e := drought.Print(x.t)
	put(text, e)
	read, e := drought.Read(x.text)
	put(read, e)
	printed, e := drought.Read(text)
	put(printed, e)
	return all
}

// ours are some arguments, with most of which all functions have results.
func ours() (all []given) {
	small := "drought 1\noutlet 0 1 0\nend 017\n"
	for i, x := range ourTrees() {
		last := len(x.Outlets) - 1
		all = append(all, given{x, make([]int, last+1), list(2, 0, 3, 1), lists(nil, nil), 0, last, 0, i % 4, 1, 4, 3, 60, small})
	}
	all = append(all, given{treeT(), list(3, 3, 4, 0), list(1, 0, 2, 3), lists(list(1), list(2, 3), list(3)), 1, 3, 1, 0, 3, 10, 5, 10, small})
	return all
}

// P0.1, R5: every function answers, whatever the arguments are.
func TestAnyValue(t *testing.T) {
	values := []int{-huge - 1, -200, -1, 0, 1, 2, 3, 4, 5, 6, 7, 8, 9, 10, 11, 200, 201, huge - 1, huge}
	for _, x := range ours() {
		for i, a := range values {
			for j, b := range values {
				c, d := values[(i+j+5)%len(values)], values[(3*i+j+1)%len(values)]
				y := x.clone()
				y.outlet, y.other, y.node, y.class, y.cups, y.days, y.low, y.high = a, b, b, a, b, a, a, b
				y.shares, y.order, y.plan = list(a, b, c, d), list(a, b, c, d), lists(list(a, b), list(c), list(d, a))
				answers(y)
				y.t = tree(a, nodes(b, c, d, a), b, c, d, c, a, b)
				answers(y)
				y.t = tree(50, nodes(0, 20, a, b), c, d, 0, 0, 5, 1)
				answers(y)
			}
		}
		for _, wrong := range wrongTrees() {
			x.t = wrong
			answers(x)
		}
	}
	many := make([]int, 100000)
	big := given{t: api.DroughtTree{Nodes: make([]api.DroughtNode, 100000), Outlets: make([]api.DroughtOutlet, 100000)}, shares: many, order: many, plan: lists(many)}
	answers(big)
	big.t = treeT()
	answers(big)
	answers(given{})
}

// R2: with an error, all other results are zero values.
func TestErrorsHaveNoResults(t *testing.T) {
	check := func(x given) {
		for i, y := range answers(x) {
			if y[len(y)-1] == api.OK {
				continue
			}
			for _, z := range y[:len(y)-1] {
				if v := reflect.ValueOf(z); !v.IsZero() && !(v.Kind() == reflect.Slice && v.Len() == 0) {
					t.Error(i, x, y)
				}
			}
		}
	}
	for _, x := range ours() {
		for _, wrong := range wrongTrees() {
			y := x
			y.t = wrong
			check(y)
		}
		for _, n := range list(-1, 201, huge) {
			y := x
			y.outlet, y.node, y.class, y.cups, y.days, y.low, y.shares, y.order, y.plan = n, n, n, n, n, n, list(n), list(n), lists(list(n))
			check(y)
		}
	}
}

// R4, R8: no argument is changed, no result shares memory with another one, and equal calls have equal results.
func TestNothingIsKept(t *testing.T) {
	for i, x := range ours() {
		before := x.clone()
		once := answers(x)
		again := answers(x.clone())
		if !reflect.DeepEqual(x, before) || !reflect.DeepEqual(once, again) {
			t.Error(i, x, once, again)
		}
		for _, y := range once {
			spoil(y[0])
		}
		if !reflect.DeepEqual(x, before) || !reflect.DeepEqual(again, answers(x)) {
			t.Error("results share memory", i, x, before)
		}
	}
}

// spoil overwrites the memory of a result.
func spoil(x any) {
	switch y := x.(type) {
	case []int:
		for i := range y {
			y[i] = -77
		}
	case [][]int:
		for _, day := range y {
			spoil(append(day, -77))
			spoil(day)
		}
	case []api.Span:
		for i := range y {
			y[i].Low = -77
		}
	case api.DroughtTree:
		for i := range y.Nodes {
			y.Nodes[i].Cap = -77
		}
		for i := range y.Outlets {
			y.Outlets[i].Claim = -77
		}
	}
}

// R4: no day of a plan shares memory with another one, nor with room behind it.
func TestDaysAreApart(t *testing.T) {
	plan, _ := drought.Turns(twinTree(), 10)
	again, _ := drought.Turns(twinTree(), 10)
	for k := range plan {
		spoil(append(plan[k], -77, -77, -77))
		spoil(plan[k])
		if !samePlan(plan[k+1:], again[k+1:]) {
			t.Error(k, plan, again)
		}
	}
}

// R4: nodes, outlets, shares and days with room behind them are not written to.
func TestRoomBehindLists(t *testing.T) {
	x := ours()[len(ours())-1]
	x.plan = lists(list(0, 7, 7), list(1, 7, 7), list(7, 7, 7))
	whole := x.clone()
	y := x
	y.t.Nodes, y.t.Outlets, y.shares, y.order = x.t.Nodes[:1], x.t.Outlets[1:3], x.shares[:2], x.order[:3]
	y.plan = lists(x.plan[0][:1], x.plan[1][:1], x.plan[2][:0])[:2]
	y.outlet, y.other = 0, 1
	if first, second, e := drought.Swaps(y.t, y.plan, 0, 1); first != 0 || second != 1 || e != api.OK {
		t.Error(first, second, e)
	}
	answers(y)
	if !reflect.DeepEqual(x, whole) || len(y.plan[:3][2]) != 0 {
		t.Error(x, whole)
	}
}

// R3: nil and empty lists are the same.
func TestNilAndEmpty(t *testing.T) {
	for _, x := range ours() {
		x.t = flooded(tree(0, nil, 0, 2, 0, 0, 3, 1), x.t.Inflow)
		x.shares, x.order, x.plan = nil, nil, nil
		y := x
		y.t.Nodes, y.shares, y.order, y.plan = []api.DroughtNode{}, list(), list(), lists()
		if !reflect.DeepEqual(answers(x), answers(y)) {
			t.Error(answers(x), answers(y))
		}
		x.plan, y.plan = lists(nil, list(0)), lists(list(), list(0))
		x.t.Outlets, y.t.Outlets = nil, []api.DroughtOutlet{}
		if !reflect.DeepEqual(answers(x), answers(y)) {
			t.Error(answers(x), answers(y))
		}
	}
}
