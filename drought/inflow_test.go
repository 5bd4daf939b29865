package drought_test

import (
	"math/rand/v2"
	"slices"
	"testing"

	"quinaria/api"
	"quinaria/drought"
)

// floodsOf returns the shares of a tree for each Inflow.
func floodsOf(t api.DroughtTree) (floods [][]int) {
	for inflow := range 201 {
		floods = append(floods, lawShares(flooded(t, inflow)))
	}
	return floods
}

// leastOf returns the least Inflow with shares that are enough, or -1 if there is none.
func leastOf(floods [][]int, enough func(shares []int) bool) int {
	return slices.IndexFunc(floods, enough)
}

// isAnswer reports whether a function returns what it should: a number from 0 on, or ErrNone for -1.
func isAnswer(y int, e api.Errno, want int) bool {
	return want < 0 && y == 0 && e == api.ErrNone || want >= 0 && y == want && e == api.OK
}

// P7.4: the chapter's example, and single Inflows; the tree's own one does not matter.
func TestSpans(t *testing.T) {
	for i, x := range []struct {
		t         api.DroughtTree
		low, high int
		want      []api.Span
	}{
		{treeT(), 5, 10, []api.Span{span(3, 3), span(2, 3), span(0, 4), span(0, 0)}}, {treeU(), 5, 10, []api.Span{span(3, 3), span(2, 3), span(0, 4), span(0, 0)}},
		{treeT(), 10, 10, []api.Span{span(3, 3), span(3, 3), span(4, 4), span(0, 0)}}, {treeT(), 0, 0, make([]api.Span, 4)}, {treeT(), 0, 200, []api.Span{span(0, 3), span(0, 3), span(0, 6), span(0, 0)}},
		{treeT(), 200, 200, []api.Span{span(3, 3), span(3, 3), span(6, 6), span(0, 0)}}, {smallTree(), 0, 1, []api.Span{span(0, 1)}}, {dryTree(), 199, 200, []api.Span{span(0, 0), span(199, 200)}},
		{fullTree(), 100, 200, slices.Concat(slices.Repeat([]api.Span{span(13, 25)}, 4), slices.Repeat([]api.Span{span(12, 25)}, 4))},
	} {
		if y, e := drought.Spans(x.t, x.low, x.high); !slices.Equal(y, x.want) || e != api.OK {
			t.Error(i, y, e)
		}
	}
}

// P7.4: all that a greater Inflow gives; nobody gets less with it.
func TestSpansEach(t *testing.T) {
	r := rand.New(rand.NewPCG(7, 11))
	for _, x := range someTrees(r, 60) {
		floods := floodsOf(x)
		for range 20 {
			low := r.IntN(201)
			high := low + r.IntN(201-low)
			y, e := drought.Spans(x, low, high)
			if len(y) != len(x.Outlets) || e != api.OK {
				t.Fatal(x, low, high, y, e)
			}
			for i := range x.Outlets {
				want := span(huge, 0)
				for _, shares := range floods[low : high+1] {
					want = span(min(want.Low, shares[i]), max(want.High, shares[i]))
				}
				if y[i] != want {
					t.Error(x, low, high, i, y[i], want)
				}
			}
		}
		before := make([]int, len(x.Outlets))
		for inflow := range 201 {
			shares, _ := drought.Shares(flooded(x, inflow))
			for i, n := range shares {
				if n < before[i] {
					t.Error(x, inflow, i, before, shares)
				}
			}
			before = shares
		}
	}
}

// P7.4: the chapter's examples, and the greatest Inflow.
func TestNeeds(t *testing.T) {
	for i, x := range []struct {
		t                  api.DroughtTree
		outlet, cups, want int
	}{
		{treeT(), 1, 3, 6}, {treeT(), 2, 6, 12}, {treeT(), 0, 4, -1}, {treeU(), 1, 3, 6}, {treeT(), 0, 1, 1}, {treeT(), 1, 1, 2}, {treeT(), 2, 1, 7}, {treeT(), 3, 1, -1}, {smallTree(), 0, 1, 1},
		{dryTree(), 1, 200, 200}, {dryTree(), 0, 1, -1}, {fullTree(), 7, 25, 200}, {fullTree(), 7, 26, -1}, {fullTree(), 0, 25, 193}, {fullTree(), 0, 26, -1}, {bareTree(), 3, 1, -1},
	} {
		if y, e := drought.Needs(x.t, x.outlet, x.cups); !isAnswer(y, e, x.want) {
			t.Error(i, y, e)
		}
	}
}

// P7.4: the chapter's example, classes without outlets, and the greatest Inflow.
func TestKeeps(t *testing.T) {
	claims := tree(3, nil, 0, 100, 1, 0, 99, 2, 0, 1, 3)
	for i, x := range []struct {
		t           api.DroughtTree
		class, want int
	}{
		{treeT(), 0, -1}, {treeT(), 1, -1}, {treeT(), 3, -1}, {smallTree(), 0, 1}, {smallTree(), 3, 1}, {claims, 0, 0}, {claims, 1, 100}, {claims, 2, 199}, {claims, 3, 200},
		{tree(0, nil, 0, 200, 1, 0, 1, 2), 1, 200}, {tree(0, nil, 0, 200, 1, 0, 1, 2), 2, -1}, {dryTree(), 0, 200}, {dryTree(), 1, -1}, {fullTree(), 2, 0}, {fullTree(), 3, -1},
		{twinTree(), 1, 0}, {twinTree(), 2, -1}, {tree(9, nodes(0, 12), slices.Repeat(list(1, 3, 2), 4)...), 2, 12}, {bareTree(), 0, -1}, {bareTree(), 2, -1},
		// What channels do not carry to a class is taken by the next one.
		{tree(9, nodes(0, 2), 1, 4, 0, 0, 2, 1), 0, -1}, {tree(9, nodes(0, 2), 0, 2, 0, 1, 4, 1), 0, 2}, {tree(9, nodes(0, 2), 0, 2, 0, 1, 4, 1, 0, 2, 2), 1, -1},
	} {
		if y, e := drought.Keeps(x.t, x.class); !isAnswer(y, e, x.want) {
			t.Error(i, y, e)
		}
	}
}

// P7.4: all cups of all outlets, and all classes, of trees of all kinds.
func TestNeedsEach(t *testing.T) {
	r := rand.New(rand.NewPCG(7, 12))
	kept := 0
	for _, x := range someTrees(r, 60) {
		floods := floodsOf(x)
		for i, outlet := range x.Outlets {
			for cups := 1; cups <= outlet.Claim; cups++ {
				want := leastOf(floods, func(shares []int) bool { return shares[i] >= cups })
				if y, e := drought.Needs(x, i, cups); !isAnswer(y, e, want) {
					t.Error(x, i, cups, y, e, want)
				}
			}
		}
		for class := range api.DroughtClasses {
			want := leastOf(floods, func(shares []int) bool {
				for i, outlet := range x.Outlets {
					if outlet.Class <= class && shares[i] < outlet.Claim {
						return false
					}
				}
				return true
			})
			if y, e := drought.Keeps(x, class); !isAnswer(y, e, want) {
				t.Error(x, class, y, e, want)
			}
			if want > 0 {
				kept++
			}
		}
	}
	if kept < 20 {
		t.Error("too few that are kept", kept)
	}
}

// P7.4: trees, Inflows, outlets, cups and classes that are none.
func TestInflowsWrong(t *testing.T) {
	spans := func(x api.DroughtTree, low, high int) {
		if y, e := drought.Spans(x, low, high); len(y) > 0 || e != api.ErrArg {
			t.Error(x, low, high, y, e)
		}
	}
	needs := func(x api.DroughtTree, outlet, cups int) {
		if y, e := drought.Needs(x, outlet, cups); y != 0 || e != api.ErrArg {
			t.Error(x, outlet, cups, y, e)
		}
	}
	keeps := func(x api.DroughtTree, class int) {
		if y, e := drought.Keeps(x, class); y != 0 || e != api.ErrArg {
			t.Error(x, class, y, e)
		}
	}
	for _, x := range wrongTrees() {
		spans(x, 5, 10)
		needs(x, 0, 1)
		keeps(x, 0)
	}
	for _, n := range list(-1, 201, huge, -huge-1) {
		spans(treeT(), n, 10)
		spans(treeT(), 5, n)
		spans(treeT(), n, n)
	}
	spans(treeT(), 6, 5)
	spans(treeT(), 200, 0)
	for _, outlet := range wrongOutlets(treeT()) {
		needs(treeT(), outlet, 1)
	}
	for i, x := range treeT().Outlets {
		for _, cups := range list(-1, 0, x.Claim+1, huge, -huge-1) {
			needs(treeT(), i, cups)
		}
	}
	for _, class := range list(-1, 4, huge, -huge-1) {
		keeps(treeT(), class)
	}
}
