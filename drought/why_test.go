package drought_test

import (
	"math/rand/v2"
	"slices"
	"testing"

	"quinaria/api"
	"quinaria/drought"
)

// isBinding reports whether a node binds an outlet, as the chapter defines it.
func isBinding(t api.DroughtTree, outlet, node int) bool {
	shares := lawShares(t)
	if !isBelow(t, outlet, node) || flowTo(t, shares, node) != capacityOf(t, node) {
		return false
	}
	for i, x := range t.Outlets {
		if !isBelow(t, i, node) {
			continue
		}
		if x.Class > t.Outlets[outlet].Class && shares[i] > 0 {
			return false
		}
		if x.Class == t.Outlets[outlet].Class && shares[i] > shares[outlet]+1 {
			return false
		}
	}
	return true
}

// whyOf returns the least node that binds an outlet, or -1 if its share is its Claim.
func whyOf(t api.DroughtTree, outlet int) int {
	if lawShares(t)[outlet] == t.Outlets[outlet].Claim {
		return -1
	}
	node := 0
	for !isBinding(t, outlet, node) {
		node++
	}
	return node
}

// cutOf returns the cut of a tree.
func cutOf(t api.DroughtTree) (cut []int) {
	shares := lawShares(t)
	isTight := func(node int) bool { return flowTo(t, shares, node) == capacityOf(t, node) }
	for node := range len(t.Nodes) + 1 {
		if isTight(node) && !slices.ContainsFunc(wayUp(t, node)[1:], isTight) {
			cut = append(cut, node)
		}
	}
	return cut
}

// P7.3: the chapter's examples, outlets with their Claim, and those that have one cup less than others.
func TestBinds(t *testing.T) {
	for i, x := range []struct {
		t            api.DroughtTree
		outlet, node int
		want         bool
	}{
		{treeT(), 0, 2, true}, {treeT(), 0, 0, false}, {treeT(), 3, 0, false}, {treeT(), 0, 1, true}, {treeT(), 1, 1, true}, {treeT(), 1, 2, false}, {treeT(), 2, 0, true}, {treeT(), 3, 1, true},
		{treeT(), 3, 2, true}, {treeT(), 1, 0, false}, {treeT(), 2, 1, false}, {treeU(), 2, 0, false}, {smallTree(), 0, 0, true}, {flooded(fullTree(), 199), 7, 0, true}, {fullTree(), 7, 6, true},
		{flooded(fullTree(), 199), 0, 6, false}, {twinTree(), 3, 1, true}, {twinTree(), 0, 1, true}, {twinTree(), 0, 0, false}, {dryTree(), 0, 0, true}, {dryTree(), 0, 1, false},
		{bareTree(), 3, 6, true}, {bareTree(), 2, 2, false}, {bareTree(), 0, 2, true}, {bareTree(), 1, 2, true}, {bareTree(), 0, 4, false},
	} {
		if y, e := drought.Binds(x.t, x.outlet, x.node); y != x.want || e != api.OK {
			t.Error(i, y, e)
		}
	}
}

// P7.3: the chapter's examples; of several nodes the least one.
func TestWhy(t *testing.T) {
	for i, x := range []struct {
		t      api.DroughtTree
		outlet int
		want   int
		e      api.Errno
	}{
		{treeT(), 0, 1, api.OK}, {treeT(), 1, 1, api.OK}, {treeT(), 2, 0, api.OK}, {treeT(), 3, 1, api.OK}, {treeU(), 2, 0, api.ErrNone}, {smallTree(), 0, 0, api.ErrNone}, {fullTree(), 3, 0, api.OK},
		{twinTree(), 3, 1, api.OK}, {dryTree(), 0, 0, api.OK}, {bareTree(), 2, 0, api.ErrNone}, {bareTree(), 3, 6, api.OK}, {bareTree(), 1, 2, api.OK},
	} {
		if y, e := drought.Why(x.t, x.outlet); y != x.want || e != x.e {
			t.Error(i, y, e)
		}
	}
}

// P7.3: the chapter's examples; nodes that carry nothing are tight, also without outlets.
func TestCut(t *testing.T) {
	for i, x := range []struct {
		t    api.DroughtTree
		want []int
	}{
		{treeT(), list(0)}, {treeU(), list(1)}, {smallTree(), list(0)}, {flooded(smallTree(), 2), nil}, {fullTree(), list(0)}, {bareTree(), list(1, 2, 6)}, {dryTree(), list(0)}, {twinTree(), list(1)},
		{tree(0, nodes(0, 0), 1, 1, 0), list(0)}, {tree(5, nodes(0, 4, 1, 0, 1, 3, 3, 3), 4, 4, 0), list(2, 3)},
	} {
		if y, e := drought.Cut(x.t); !slices.Equal(y, x.want) || e != api.OK {
			t.Error(i, y, e)
		}
	}
}

// P7.3, P0.7: all of trees of all kinds; who does not get the Claim is bound.
func TestWhyEach(t *testing.T) {
	r := rand.New(rand.NewPCG(7, 8))
	bound := 0
	for _, x := range someTrees(r, 300) {
		if y, e := drought.Cut(x); !slices.Equal(y, cutOf(x)) || e != api.OK {
			t.Error(x, y, e)
		}
		for i := range x.Outlets {
			any := false
			for node := range len(x.Nodes) + 1 {
				y, e := drought.Binds(x, i, node)
				if y != isBinding(x, i, node) || e != api.OK {
					t.Error(x, i, node, y, e)
				}
				any = any || y
			}
			want := whyOf(x, i)
			y, e := drought.Why(x, i)
			if want < 0 && (y != 0 || e != api.ErrNone) || want >= 0 && (y != want || e != api.OK || !any) {
				t.Error(x, i, y, e, any)
			}
			if want > 0 {
				bound++
			}
		}
	}
	if bound < 100 {
		t.Error("too few that channels bind", bound)
	}
}

// P7.3, P0.7: all shares sum to the capacities of the cut's nodes and the claims of all outlets below none of these.
func TestCutSums(t *testing.T) {
	r := rand.New(rand.NewPCG(7, 9))
	many := 0
	for _, x := range someTrees(r, 1000) {
		shares, _ := drought.Shares(x)
		cut, e := drought.Cut(x)
		left := classSum(x, shares, 0, 1, 2, 3)
		for _, node := range cut {
			left -= capacityOf(x, node)
		}
		for i, y := range x.Outlets {
			if !slices.ContainsFunc(cut, func(node int) bool { return isBelow(x, i, node) }) {
				left -= y.Claim
			}
		}
		if left != 0 || e != api.OK || !slices.IsSorted(cut) {
			t.Error(x, shares, cut, left, e)
		}
		if len(cut) > 1 {
			many++
		}
	}
	if many < 50 {
		t.Error("too few cuts of several nodes", many)
	}
}

// widensOf returns all nodes for which an outlet gets more if they carry one cup more.
func widensOf(t api.DroughtTree, outlet int) (all []int) {
	for node := range len(t.Nodes) + 1 {
		wider := changed(t, func(t *api.DroughtTree) {
			if node == 0 {
				t.Inflow++
			} else {
				t.Nodes[node-1].Cap++
			}
		})
		if lawShares(wider)[outlet] > lawShares(t)[outlet] {
			all = append(all, node)
		}
	}
	return all
}

// P7.5: the chapter's examples, and capacities that are greater than any of a tree then.
func TestWidens(t *testing.T) {
	row := nodes(0, 1, 1, 1)
	for i, x := range []struct {
		t      api.DroughtTree
		outlet int
		want   []int
	}{
		{treeT(), 0, nil}, {treeT(), 1, list(1)}, {treeT(), 2, list(0)}, {treeT(), 3, nil}, {treeU(), 1, list(1)}, {treeU(), 2, nil}, {smallTree(), 0, nil}, {twinTree(), 3, list(1)}, {twinTree(), 0, nil},
		{tree(200, nil, 0, 200, 0, 0, 200, 1), 1, list(0)}, {tree(200, nil, 0, 200, 0, 0, 200, 1), 0, nil}, {tree(1, row, 2, 2, 0), 0, nil}, {tree(2, row, 2, 2, 0), 0, nil},
		{tree(2, nodes(0, 2, 1, 1), 2, 2, 0), 0, list(2)}, {tree(1, nodes(0, 2, 1, 2), 2, 2, 0), 0, list(0)}, {dryTree(), 1, list(0)}, {dryTree(), 0, nil}, {bareTree(), 3, list(6)},
		// Of two that are bound by one node, the one gets more who had less, or comes first.
		{tree(6, nodes(0, 2, 0, 3), 1, 2, 0, 2, 3, 0, 2, 3, 0), 1, nil}, {tree(6, nodes(0, 2, 0, 3), 1, 2, 0, 2, 3, 0, 2, 3, 0), 2, list(2)}, {tree(6, nodes(0, 2, 0, 4), 1, 2, 0, 2, 3, 0, 2, 3, 0), 1, nil},
		{tree(7, nodes(0, 2, 0, 4), 1, 2, 0, 2, 3, 0, 2, 3, 0), 1, list(2)}, {tree(7, nodes(0, 2, 0, 4), 1, 2, 0, 2, 3, 0, 2, 3, 0), 2, nil},
		// One of an earlier class takes of a later one.
		{tree(9, nodes(0, 3, 0, 3), 1, 4, 0, 2, 4, 0, 0, 200, 1, 1, 9, 2), 0, list(1)}, {tree(9, nodes(0, 3, 0, 3), 1, 4, 0, 2, 4, 0, 0, 200, 1, 1, 9, 2), 2, list(0)},
		{tree(200, nodes(0, 200), 1, 200, 0, 0, 200, 0), 0, list(0)}, {tree(200, nodes(0, 200), 1, 200, 0, 0, 200, 0), 1, nil}, {tree(200, nodes(0, 200), 1, 200, 0, 1, 200, 0), 0, nil},
	} {
		if y, e := drought.Widens(x.t, x.outlet); !slices.Equal(y, x.want) || e != api.OK {
			t.Error(i, y, e)
		}
	}
}

// P7.5: all outlets of trees of all kinds.
func TestWidensEach(t *testing.T) {
	r := rand.New(rand.NewPCG(7, 10))
	channels := 0
	for _, x := range someTrees(r, 300) {
		for i := range x.Outlets {
			want := widensOf(x, i)
			if y, e := drought.Widens(x, i); !slices.Equal(y, want) || e != api.OK {
				t.Error(x, i, y, e)
			}
			if len(want) > 0 && want[0] > 0 {
				channels++
			}
		}
	}
	if channels < 100 {
		t.Error("too few with channels", channels)
	}
}

// P7.3, P7.5: trees, outlets and nodes that are none.
func TestWhyWrong(t *testing.T) {
	try := func(x api.DroughtTree, outlet, node int) {
		if y, e := drought.Binds(x, outlet, node); y || e != api.ErrArg {
			t.Error(x, outlet, node, y, e)
		}
		if isNode := 0 <= node && node <= len(x.Nodes); isNode {
			if y, e := drought.Why(x, outlet); y != 0 || e != api.ErrArg {
				t.Error(x, outlet, y, e)
			}
			if y, e := drought.Widens(x, outlet); len(y) > 0 || e != api.ErrArg {
				t.Error(x, outlet, y, e)
			}
		}
	}
	for _, x := range wrongTrees() {
		try(x, 0, 0)
		if y, e := drought.Cut(x); len(y) > 0 || e != api.ErrArg {
			t.Error(x, y, e)
		}
	}
	for _, x := range ourTrees() {
		for _, outlet := range wrongOutlets(x) {
			try(x, outlet, 0)
		}
		for _, node := range list(-1, len(x.Nodes)+1, huge, -huge-1) {
			try(x, 0, node)
		}
	}
}
