package drought

import (
	"iter"

	"quinaria/api"
)

// source is the number of the node from which all water comes.
const source = 0

// served is a tree with its shares, as far as they are given out.
type served struct {
	api.DroughtTree
	shares []int
	// flows is, for each node, what all outlets below it get.
	flows []int
}

// misfit is what giving out gives up with: these are no shares that fit.
type misfit struct{}

// unserved returns a tree with shares of 0.
func unserved(t api.DroughtTree) *served {
	return &served{t, make([]int, len(t.Outlets)), make([]int, 1+len(t.Nodes))}
}

// lawful returns a tree with the shares of the law's order.
func lawful(t api.DroughtTree) *served { return ordered(t, lawsOrder()) }

func lawsOrder() (order []int) {
	for class := range api.DroughtClasses {
		order = append(order, class)
	}
	return order
}

// ordered returns a tree with the shares of an order.
func ordered(t api.DroughtTree, order []int) *served {
	s := unserved(t)
	for _, class := range order {
		s.serve(class)
	}
	return s
}

// serve gives out all that a class gets.
func (s *served) serve(class int) {
	raise := func(outlet int) bool {
		return attempt(func() { s.give(outlet, 1) }) == api.OK
	}
	var still []int
	for i := range len(s.Outlets) {
		if s.Outlets[i].Class == class {
			still = append(still, i)
		}
	}
	for len(still) > 0 {
		var gain []int
		for _, i := range still {
			if raise(i) {
				gain = append(gain, i)
			}
		}
		still = gain
	}
}

// give gives some cups more to an outlet, or gives up if these are no shares that fit then.
func (s *served) give(outlet, cups int) {
	must(s.shares[outlet]+cups <= s.Outlets[outlet].Claim, misfit{})
	for node := range s.above(outlet) {
		must(s.flows[node]+cups <= capacity(s.DroughtTree, node), misfit{})
	}
	s.shares[outlet] += cups
	for node := range s.above(outlet) {
		s.flows[node] += cups
	}
}

// above goes through all nodes that an outlet is below.
func (s *served) above(outlet int) iter.Seq[int] {
	return upFrom(s.DroughtTree, s.Outlets[outlet].Node)
}

// upFrom goes through a node, the parent of that, and so on, up to the source.
func upFrom(t api.DroughtTree, node int) iter.Seq[int] {
	return func(yield func(int) bool) {
		for yield(node) && node != source {
			node = t.Nodes[node-1].Parent
		}
	}
}

// capacity returns how much flows to a node at most.
func capacity(t api.DroughtTree, node int) int {
	if node == source {
		return t.Inflow
	}
	return t.Nodes[node-1].Cap
}

// share returns how much an outlet gets.
func (s *served) share(outlet int) int { return s.shares[outlet] }

// isServed reports whether an outlet gets its Claim.
func (s *served) isServed(outlet int) bool { return s.shares[outlet] == s.Outlets[outlet].Claim }

// must gives up with a value if something is not right.
func must(right bool, otherwise any) {
	if !right {
		panic(otherwise)
	}
}

// attempt returns the error with which a part of the work gives up, or OK if it does not.
func attempt(work func()) (e api.Errno) {
	defer func() {
		switch recover().(type) {
		case misfit:
			e = api.ErrRule
		case noText:
			e = api.ErrText
		}
	}()
	work()
	return api.OK
}
