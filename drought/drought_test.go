package drought_test

import (
	"math/rand/v2"
	"slices"
	"testing"

	"quinaria/api"
	"quinaria/drought"
)

// P7.1: trees, also at the limits, and what is none.
func TestCheck(t *testing.T) {
	for i, x := range ourTrees() {
		if e := drought.Check(x); e != api.OK {
			t.Error(i, e)
		}
	}
	for i, x := range wrongTrees() {
		if e := drought.Check(x); e != api.ErrArg {
			t.Error(i, x, e)
		}
	}
}

// P7.1: each number of a tree is tried at and beyond both of its bounds.
func TestCheckBounds(t *testing.T) {
	for _, x := range []struct {
		low, high int
		set       func(t *api.DroughtTree, n int)
	}{
		{0, 200, func(t *api.DroughtTree, n int) { t.Inflow = n }},
		{0, 0, func(t *api.DroughtTree, n int) { t.Nodes[0].Parent = n }},
		{0, 1, func(t *api.DroughtTree, n int) { t.Nodes[1].Parent = n }},
		{0, 200, func(t *api.DroughtTree, n int) { t.Nodes[0].Cap = n }},
		{0, 200, func(t *api.DroughtTree, n int) { t.Nodes[1].Cap = n }},
		{0, 2, func(t *api.DroughtTree, n int) { t.Outlets[0].Node = n }},
		{0, 2, func(t *api.DroughtTree, n int) { t.Outlets[3].Node = n }},
		{1, 200, func(t *api.DroughtTree, n int) { t.Outlets[1].Claim = n }},
		{0, 3, func(t *api.DroughtTree, n int) { t.Outlets[3].Class = n }},
	} {
		for n := x.low - 2; n <= x.high+2; n++ {
			y := changed(treeT(), func(t *api.DroughtTree) { x.set(t, n) })
			if e := drought.Check(y); (e == api.OK) != (x.low <= n && n <= x.high) || e != api.OK && e != api.ErrArg {
				t.Error(y, e)
			}
		}
	}
	for many := range 10 {
		x := tree(1, nodes(make([]int, 2*many)...), 0, 1, 0)
		y := tree(1, nil, slices.Repeat(list(0, 1, 0), many)...)
		if e := drought.Check(x); (e == api.OK) != (many <= 6) {
			t.Error(x, e)
		}
		if e := drought.Check(y); (e == api.OK) != (1 <= many && many <= 8) {
			t.Error(y, e)
		}
	}
}

// P7.1: the chapter's examples, and shares that just fit.
func TestFits(t *testing.T) {
	for i, x := range []struct {
		t      api.DroughtTree
		shares []int
		want   bool
	}{
		{treeT(), list(3, 3, 4, 0), true}, {treeT(), list(4, 1, 0, 0), false}, {treeT(), list(0, 0, 0, 0), true}, {treeT(), list(3, 3, 5, 0), false}, {treeT(), list(2, 4, 0, 1), false},
		{treeT(), list(2, 4, 4, 0), true}, {treeT(), list(0, 4, 4, 2), true}, {treeT(), list(2, 0, 0, 2), false}, {treeU(), list(1, 3, 6, 2), true},
		{fullTree(), list(200, 0, 0, 0, 0, 0, 0, 0), true}, {fullTree(), list(200, 0, 0, 0, 0, 0, 0, 1), false}, {fullTree(), list(25, 25, 25, 25, 25, 25, 25, 25), true},
		{dryTree(), list(0, 0), true}, {dryTree(), list(0, 1), false}, {bareTree(), list(15, 2, 3, 0), true}, {bareTree(), list(15, 2, 3, 1), false}, {bareTree(), list(15, 3, 3, 0), false},
	} {
		if y, e := drought.Fits(x.t, x.shares); y != x.want || e != api.OK {
			t.Error(i, y, e)
		}
	}
}

// P7.1: all shares of small trees.
func TestFitsEach(t *testing.T) {
	r := rand.New(rand.NewPCG(7, 1))
	for range 300 {
		x := someTree(r, 4, 3, 4)
		free := changed(x, func(t *api.DroughtTree) { t.Inflow, t.Nodes = 200, slices.Repeat(nodes(0, 200), len(t.Nodes)) })
		for _, shares := range allFitting(free) {
			if y, e := drought.Fits(x, shares); y != isFitting(x, shares) || e != api.OK {
				t.Error(x, shares, y, e)
			}
		}
	}
}

// P7.1: lists that are no shares.
func TestFitsWrong(t *testing.T) {
	for _, shares := range lists(nil, list(0), list(0, 0, 0), list(0, 0, 0, 0, 0), list(5, 0, 0, 0), list(0, 6, 0, 0), list(0, 0, 7, 0), list(0, 0, 0, 3), list(-1, 0, 0, 0), list(0, 0, 0, -1),
		list(4, 5, 6, 3), list(huge, 0, 0, 0), list(0, 0, -huge-1, 0), make([]int, 100000)) {
		if y, e := drought.Fits(treeT(), shares); y || e != api.ErrArg {
			t.Error(shares, y, e)
		}
	}
	for _, x := range wrongTrees() {
		if y, e := drought.Fits(x, make([]int, len(x.Outlets))); y || e != api.ErrArg {
			t.Error(x, y, e)
		}
	}
}

// P7.2: the chapter's examples, and what all have alike.
func TestShares(t *testing.T) {
	for i, x := range []struct {
		t    api.DroughtTree
		want []int
	}{
		{treeT(), list(3, 3, 4, 0)}, {treeU(), list(3, 3, 6, 0)}, {smallTree(), list(1)}, {fullTree(), list(25, 25, 25, 25, 25, 25, 25, 25)},
		{flooded(fullTree(), 199), list(25, 25, 25, 25, 25, 25, 25, 24)}, {dryTree(), list(0, 0)}, {twinTree(), list(2, 2, 2, 1)}, {bareTree(), list(9, 8, 3, 0)},
		{flooded(treeT(), 5), list(3, 2, 0, 0)}, {flooded(treeT(), 0), list(0, 0, 0, 0)}, {flooded(treeT(), 200), list(3, 3, 6, 0)},
	} {
		if y, e := drought.Shares(x.t); !slices.Equal(y, x.want) || e != api.OK {
			t.Error(i, y, e)
		}
	}
	for _, x := range wrongTrees() {
		if y, e := drought.Shares(x); len(y) > 0 || e != api.ErrArg {
			t.Error(x, y, e)
		}
	}
}

// P7.2: the chapter's example, and all orders of trees of all kinds.
func TestOrdered(t *testing.T) {
	if y, e := drought.Ordered(treeT(), list(1, 0, 2, 3)); !slices.Equal(y, list(1, 1, 6, 2)) || e != api.OK {
		t.Error(y, e)
	}
	r := rand.New(rand.NewPCG(7, 2))
	orders := allOrders()
	for _, x := range someTrees(r, 150) {
		for _, order := range orders {
			if y, e := drought.Ordered(x, order); !slices.Equal(y, sharesOf(x, order...)) || e != api.OK {
				t.Error(x, order, y, e)
			}
		}
		y, e := drought.Shares(x)
		if z, f := drought.Ordered(x, list(0, 1, 2, 3)); !slices.Equal(y, z) || e != api.OK || f != api.OK {
			t.Error(x, y, z, e, f)
		}
	}
}

// P7.2: lists that are no orders, and trees that are none.
func TestOrderedWrong(t *testing.T) {
	for _, order := range wrongOrders() {
		if y, e := drought.Ordered(treeT(), order); len(y) > 0 || e != api.ErrArg {
			t.Error(order, y, e)
		}
	}
	for _, x := range wrongTrees() {
		if y, e := drought.Ordered(x, list(0, 1, 2, 3)); len(y) > 0 || e != api.ErrArg {
			t.Error(x, y, e)
		}
	}
}

// P7.2: shares fit, and an order of classes without outlets does not matter.
func TestSharesFit(t *testing.T) {
	r := rand.New(rand.NewPCG(7, 3))
	for _, x := range someTrees(r, 500) {
		shares, _ := drought.Shares(x)
		if y, e := drought.Fits(x, shares); !y || e != api.OK {
			t.Error(x, shares, y, e)
		}
	}
	one, _ := drought.Ordered(twinTree(), list(0, 1, 2, 3))
	for _, order := range allOrders() {
		if other, _ := drought.Ordered(twinTree(), order); !slices.Equal(one, other) {
			t.Error(order, one, other)
		}
	}
}

// P7.2, P0.7: whoever gets more by other shares that fit takes it of an earlier class, or of one of the same class that has no more then than the first one had.
func TestNobodyCanHaveMore(t *testing.T) {
	r := rand.New(rand.NewPCG(7, 4))
	more := 0
	for range 400 {
		x := someTree(r, 4, 5, 4)
		shares, _ := drought.Shares(x)
		for _, other := range allFitting(x) {
			for i, n := range other {
				if n <= shares[i] {
					continue
				}
				more++
				loses := func(j int) bool {
					one, two := x.Outlets[i].Class, x.Outlets[j].Class
					return other[j] < shares[j] && (two < one || two == one && other[j] <= shares[i])
				}
				if !slices.ContainsFunc(list(0, 1, 2, 3, 4)[:len(other)], loses) {
					t.Error(x, shares, other, i)
				}
			}
		}
	}
	if more < 1000 {
		t.Error("too few with more", more)
	}
}

// P7.2: no other shares give all classes up to one together more, in the law's order and in any other one.
func TestClassesUpToOne(t *testing.T) {
	r := rand.New(rand.NewPCG(7, 5))
	orders := allOrders()
	for range 300 {
		x := someTree(r, 4, 5, 4)
		order := orders[r.IntN(len(orders))]
		for _, order := range lists(list(0, 1, 2, 3), order) {
			shares, _ := drought.Ordered(x, order)
			for _, other := range allFitting(x) {
				for up := range order {
					if classSum(x, other, order[:up+1]...) > classSum(x, shares, order[:up+1]...) {
						t.Error(x, order[:up+1], shares, other)
					}
				}
			}
		}
	}
}

// P7.8: the class that is first in an order gets no less, together, than in any other order.
func TestFirstClass(t *testing.T) {
	r := rand.New(rand.NewPCG(7, 6))
	fewer := 0
	for _, x := range someTrees(r, 150) {
		for _, order := range allOrders() {
			shares, _ := drought.Ordered(x, order)
			for _, another := range allOrders() {
				other, _ := drought.Ordered(x, another)
				one, two := classSum(x, shares, order[0]), classSum(x, other, order[0])
				if one < two {
					t.Error(x, order, another, shares, other)
				}
				if one > two {
					fewer++
				}
			}
		}
	}
	if fewer < 1000 {
		t.Error("too few that get less", fewer)
	}
}

// P7.8: if a channel is widened, all outlets together get no less.
func TestWideChannels(t *testing.T) {
	r := rand.New(rand.NewPCG(7, 7))
	all := list(0, 1, 2, 3)
	more := 0
	for _, x := range someTrees(r, 500) {
		shares, _ := drought.Shares(x)
		before := classSum(x, shares, all...)
		for node := range len(x.Nodes) {
			wider := changed(x, func(t *api.DroughtTree) {
				t.Nodes[node].Cap += r.IntN(201 - t.Nodes[node].Cap)
			})
			shares, e := drought.Shares(wider)
			after := classSum(x, shares, all...)
			if after < before || e != api.OK {
				t.Error(x, wider, shares, e)
			}
			if after > before {
				more++
			}
		}
	}
	if more < 100 {
		t.Error("too few that get more", more)
	}
}
