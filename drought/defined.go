package drought

import (
	"slices"

	"quinaria/api"
)

// part is a part of a tree.
type part interface {
	// isOf reports whether it is as defined, as a part of a tree, with so many parts before it.
	isOf(t api.DroughtTree, before int) bool
	// text returns its line of a text.
	text() string
}

type nodePart api.DroughtNode

// isOf looks for the parent among the source and the nodes before.
func (x nodePart) isOf(_ api.DroughtTree, before int) bool {
	return isFrom(source, before, x.Parent) && areCups(x.Cap)
}

type outletPart api.DroughtOutlet

func (x outletPart) isOf(t api.DroughtTree, _ int) bool {
	return isNode(t, x.Node) && isFrom(1, api.DroughtCups, x.Claim) && isClass(x.Class)
}

// partsOf returns all nodes of a tree, and then all outlets.
func partsOf(t api.DroughtTree) (parts []part) {
	for _, x := range t.Nodes {
		parts = append(parts, nodePart(x))
	}
	for _, x := range t.Outlets {
		parts = append(parts, outletPart(x))
	}
	return parts
}

func isTree(t api.DroughtTree) bool {
	if !areCups(t.Inflow) || len(t.Nodes) > api.DroughtNodes || !isFrom(1, api.DroughtOutlets, len(t.Outlets)) {
		return false
	}
	for i, x := range partsOf(t) {
		if !x.isOf(t, i) {
			return false
		}
	}
	return true
}

// isNode reports whether a tree has a node with this number, the source among them.
func isNode(t api.DroughtTree, node int) bool { return isFrom(source, len(t.Nodes), node) }

func isOutlet(t api.DroughtTree, outlet int) bool { return isFrom(0, len(t.Outlets)-1, outlet) }

func isClass(class int) bool { return isFrom(0, api.DroughtClasses-1, class) }

func areCups(cups int) bool { return isFrom(0, api.DroughtCups, cups) }

func areShares(t api.DroughtTree, shares []int) bool {
	if len(shares) != len(t.Outlets) {
		return false
	}
	for i, x := range t.Outlets {
		if !isFrom(0, x.Claim, shares[i]) {
			return false
		}
	}
	return true
}

// isOrder reports whether a list has all classes, each one once.
func isOrder(order []int) bool {
	return slices.Equal(slices.Sorted(slices.Values(order)), lawsOrder())
}

func isPlan(t api.DroughtTree, plan [][]int) bool {
	return len(plan) <= api.DroughtDays && all(plan, func(day []int) bool { return isDay(t, day) })
}

// isDay reports whether outlets of a tree are in increasing order.
func isDay(t api.DroughtTree, day []int) bool {
	from := 0
	for _, i := range day {
		if !isFrom(from, len(t.Outlets)-1, i) {
			return false
		}
		from = i + 1
	}
	return true
}

func isFrom(low, high, n int) bool { return low <= n && n <= high }

func all[T any](list []T, right func(T) bool) bool {
	return !slices.ContainsFunc(list, func(x T) bool { return !right(x) })
}
