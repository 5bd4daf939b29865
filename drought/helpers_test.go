package drought_test

import (
	"cmp"
	"math/rand/v2"
	"slices"

	"quinaria/api"
)

const huge = int(^uint(0) >> 1)

func span(low, high int) api.Span { return api.Span{Low: low, High: high} }

func list(n ...int) []int { return n }

func lists(x ...[]int) [][]int { return x }

// nodes returns nodes with a Parent and a Cap, one after the other.
func nodes(n ...int) (all []api.DroughtNode) {
	for i := 0; i < len(n); i += 2 {
		all = append(all, api.DroughtNode{Parent: n[i], Cap: n[i+1]})
	}
	return all
}

// tree returns a tree whose outlets have a Node, a Claim and a Class, one after the other.
func tree(inflow int, channels []api.DroughtNode, n ...int) api.DroughtTree {
	t := api.DroughtTree{Inflow: inflow, Nodes: channels}
	for i := 0; i < len(n); i += 3 {
		t.Outlets = append(t.Outlets, api.DroughtOutlet{Node: n[i], Claim: n[i+1], Class: n[i+2]})
	}
	return t
}

// changed returns a tree in memory of its own, with some change.
func changed(t api.DroughtTree, change func(*api.DroughtTree)) api.DroughtTree {
	t.Nodes, t.Outlets = slices.Clone(t.Nodes), slices.Clone(t.Outlets)
	change(&t)
	return t
}

// flooded returns a tree with another Inflow.
func flooded(t api.DroughtTree, inflow int) api.DroughtTree {
	t.Inflow = inflow
	return t
}

// treeT is the chapter's tree t.
func treeT() api.DroughtTree { return tree(10, nodes(0, 6, 1, 3), 2, 4, 0, 1, 5, 0, 0, 6, 1, 2, 2, 1) }

// treeU is the chapter's tree u.
func treeU() api.DroughtTree { return flooded(treeT(), 20) }

// smallTree is the tree whose text the chapter shows.
func smallTree() api.DroughtTree { return tree(1, nil, 0, 1, 0) }

// fullTree is a tree with as much of everything as there can be.
func fullTree() api.DroughtTree {
	return tree(200, nodes(0, 200, 1, 200, 2, 200, 3, 200, 4, 200, 5, 200), slices.Repeat(list(6, 200, 3), 8)...)
}

// bareTree is a tree with channels that carry nothing, and to which no outlet is, beside one that is full.
func bareTree() api.DroughtTree {
	return tree(50, nodes(0, 0, 0, 20, 2, 0, 2, 30, 4, 0, 0, 0), 4, 15, 2, 2, 10, 2, 4, 3, 1, 6, 7, 0)
}

// dryTree is a tree into which nothing flows.
func dryTree() api.DroughtTree { return tree(0, nodes(0, 9), 1, 4, 1, 0, 200, 0) }

// twinTree is a tree with outlets that are all alike.
func twinTree() api.DroughtTree { return tree(11, nodes(0, 7), slices.Repeat(list(1, 3, 2), 4)...) }

// ourTrees are trees of all kinds.
func ourTrees() []api.DroughtTree {
	return []api.DroughtTree{treeT(), treeU(), smallTree(), fullTree(), bareTree(), dryTree(), twinTree()}
}

// wrongTrees are trees each of which is not as defined in one way.
func wrongTrees() []api.DroughtTree {
	two := nodes(0, 6, 1, 3)
	wrong := []api.DroughtTree{
		{}, tree(10, two), tree(10, nil), flooded(treeT(), 201), tree(10, nil, slices.Repeat(list(0, 1, 0), 9)...), tree(10, nodes(make([]int, 14)...), 0, 1, 0),
		tree(10, nodes(1, 6), 0, 1, 0), tree(10, nodes(2, 6, 0, 6), 0, 1, 0), tree(10, nodes(0, 6, 2, 3), 0, 1, 0), tree(10, nodes(0, 6, 3, 3), 0, 1, 0), tree(10, nodes(0, 6, 1, 3, 4, 2, 0, 5), 0, 1, 0),
		tree(10, nodes(0, 201), 0, 1, 0), tree(10, nodes(0, 6, 1, 201), 0, 1, 0), tree(10, nodes(0, 6, 1, 3, 2, 201), 0, 1, 0),
		tree(10, nil, 1, 1, 0), tree(10, two, 3, 1, 0), tree(10, two, 0, 1, 0, 2, 1, 0, 3, 1, 0), tree(10, two, 0, 0, 0), tree(10, two, 0, 201, 0), tree(10, two, 1, 4, 1, 2, 0, 1),
		tree(10, two, 1, 4, 1, 2, 201, 1), tree(10, two, 0, 1, 4), tree(10, two, 0, 1, 0, 1, 1, 4),
	}
	for _, n := range list(-1, huge, -huge-1) {
		wrong = append(wrong, flooded(treeT(), n), tree(10, nodes(n, 6), 0, 1, 0), tree(10, nodes(0, 6, n, 6), 0, 1, 0), tree(10, nodes(0, n), 0, 1, 0), tree(10, nodes(0, 6, 1, n), 0, 1, 0),
			tree(10, two, n, 1, 0), tree(10, two, 0, n, 0), tree(10, two, 0, 1, n), tree(10, two, 0, 1, 0, n, 1, 0), tree(10, two, 0, 1, 0, 0, n, 0), tree(10, two, 0, 1, 0, 0, 1, n))
	}
	return wrong
}

// wrongOutlets are numbers that no outlet of a tree has.
func wrongOutlets(t api.DroughtTree) []int { return list(-1, len(t.Outlets), 8, huge, -huge-1) }

// wrongOrders are lists that are no orders.
func wrongOrders() [][]int {
	return lists(nil, list(0), list(0, 1, 2), list(1, 2, 3), list(0, 1, 2, 2), list(0, 0, 1, 2), list(3, 3, 3, 3), list(1, 2, 3, 4), list(-1, 0, 1, 2), list(0, 1, 2, 3, 0), list(0, 1, 2, 3, 4),
		list(0, 1, 2, huge), list(-huge-1, 1, 2, 3), make([]int, 100000))
}

// allOrders returns all orders.
func allOrders() (all [][]int) {
	all = lists(nil)
	for range api.DroughtClasses {
		var longer [][]int
		for _, order := range all {
			for class := range api.DroughtClasses {
				if !slices.Contains(order, class) {
					longer = append(longer, append(slices.Clone(order), class))
				}
			}
		}
		all = longer
	}
	return all
}

// wayUp returns a node, its parent, and so on, up to the node 0.
func wayUp(t api.DroughtTree, node int) []int {
	if node == 0 {
		return list(0)
	}
	return append(list(node), wayUp(t, t.Nodes[node-1].Parent)...)
}

func isBelow(t api.DroughtTree, outlet, node int) bool {
	return slices.Contains(wayUp(t, t.Outlets[outlet].Node), node)
}

func capacityOf(t api.DroughtTree, node int) int { return append(list(t.Inflow), capsOf(t)...)[node] }

func capsOf(t api.DroughtTree) (caps []int) {
	for _, x := range t.Nodes {
		caps = append(caps, x.Cap)
	}
	return caps
}

// flowTo returns the sum of the shares of all outlets below a node.
func flowTo(t api.DroughtTree, shares []int, node int) (flow int) {
	for i, n := range shares {
		if isBelow(t, i, node) {
			flow += n
		}
	}
	return flow
}

// isFitting reports whether numbers are shares that fit, as the chapter defines it.
func isFitting(t api.DroughtTree, shares []int) bool {
	for i, n := range shares {
		if n < 0 || n > t.Outlets[i].Claim {
			return false
		}
	}
	for node := range len(t.Nodes) + 1 {
		if flowTo(t, shares, node) > capacityOf(t, node) {
			return false
		}
	}
	return true
}

// sharesOf returns the shares of an order, round by round.
func sharesOf(t api.DroughtTree, order ...int) []int {
	shares := make([]int, len(t.Outlets))
	for _, class := range order {
		for more := true; more; {
			more = false
			for i, x := range t.Outlets {
				if x.Class != class {
					continue
				}
				shares[i]++
				if isFitting(t, shares) {
					more = true
				} else {
					shares[i]--
				}
			}
		}
	}
	return shares
}

// lawShares returns the shares of a tree.
func lawShares(t api.DroughtTree) []int { return sharesOf(t, 0, 1, 2, 3) }

// allFitting returns all shares that fit a tree.
func allFitting(t api.DroughtTree) [][]int {
	all := lists(nil)
	for _, x := range t.Outlets {
		var longer [][]int
		for _, shares := range all {
			for n := range x.Claim + 1 {
				longer = append(longer, append(slices.Clone(shares), n))
			}
		}
		all = longer
	}
	return slices.DeleteFunc(all, func(shares []int) bool { return !isFitting(t, shares) })
}

// classSum returns what the outlets of some classes get together.
func classSum(t api.DroughtTree, shares []int, classes ...int) (cups int) {
	for i, n := range shares {
		if slices.Contains(classes, t.Outlets[i].Class) {
			cups += n
		}
	}
	return cups
}

// someTree returns a tree with up to so many nodes and outlets, no number of cups of which is greater than most.
func someTree(r *rand.Rand, channels, outlets, most int) api.DroughtTree {
	t := api.DroughtTree{Inflow: r.IntN(most + 1)}
	for i := range r.IntN(channels + 1) {
		t.Nodes = append(t.Nodes, api.DroughtNode{Parent: r.IntN(i + 1), Cap: r.IntN(most + 1)})
	}
	for range 1 + r.IntN(outlets) {
		t.Outlets = append(t.Outlets, api.DroughtOutlet{Node: r.IntN(len(t.Nodes) + 1), Claim: 1 + r.IntN(most), Class: r.IntN(api.DroughtClasses)})
	}
	if r.IntN(3) == 0 {
		t.Inflow = min(200, 3*t.Inflow)
	}
	return t
}

// someTrees returns trees of all sizes, and our own.
func someTrees(r *rand.Rand, many int) []api.DroughtTree {
	all := ourTrees()
	for range many {
		all = append(all, someTree(r, 6, 8, []int{3, 12, 40, 200}[r.IntN(4)]))
	}
	return all
}

// dayOf returns the outlets of a set of bits.
func dayOf(bits int) (day []int) {
	for i := range 8 {
		if bits>>i&1 == 1 {
			day = append(day, i)
		}
	}
	return day
}

// isRunning reports whether outlets can run on one day, as the chapter defines it.
func isRunning(t api.DroughtTree, day []int) bool {
	shares := make([]int, len(t.Outlets))
	for _, i := range day {
		shares[i] = t.Outlets[i].Claim
	}
	return isFitting(t, shares)
}

// somePlan returns a plan of up to so many days that mostly fits.
func somePlan(r *rand.Rand, t api.DroughtTree, days int) (plan [][]int) {
	for range r.IntN(days + 1) {
		day := dayOf(r.IntN(1 << len(t.Outlets)))
		for !isRunning(t, day) && r.IntN(40) > 0 {
			i := r.IntN(len(day))
			day = slices.Delete(day, i, i+1)
		}
		plan = append(plan, day)
	}
	return plan
}

// daysOf returns on how many days each outlet runs.
func daysOf(t api.DroughtTree, plan [][]int) []int {
	days := make([]int, len(t.Outlets))
	for _, day := range plan {
		for _, i := range day {
			days[i]++
		}
	}
	return days
}

// turnsOf returns the plan of turns.
func turnsOf(t api.DroughtTree, days int) (plan [][]int) {
	for range days {
		ran := daysOf(t, plan)
		order := list(0, 1, 2, 3, 4, 5, 6, 7)[:len(t.Outlets)]
		slices.SortFunc(order, func(i, j int) int {
			return cmp.Or(cmp.Compare(ran[i], ran[j]), cmp.Compare(t.Outlets[i].Class, t.Outlets[j].Class), cmp.Compare(i, j))
		})
		var day []int
		for _, i := range order {
			if isRunning(t, append(slices.Clone(day), i)) {
				day = append(day, i)
			}
		}
		slices.Sort(day)
		plan = append(plan, day)
	}
	return plan
}

// sameTree reports whether two trees are the same value.
func sameTree(a, b api.DroughtTree) bool {
	return a.Inflow == b.Inflow && slices.Equal(a.Nodes, b.Nodes) && slices.Equal(a.Outlets, b.Outlets)
}

// isNone reports whether a tree is the zero value.
func isNone(t api.DroughtTree) bool { return sameTree(t, api.DroughtTree{}) }
