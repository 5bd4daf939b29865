package drought

import (
	"slices"

	"quinaria/api"
)

// Binds reports whether a node binds an outlet.
func Binds(t api.DroughtTree, outlet, node int) (bool, api.Errno) {
	if !isTree(t) || !isOutlet(t, outlet) || !isNode(t, node) {
		return false, api.ErrArg
	}
	return lawful(t).binds(node, outlet), api.OK
}

// binds reports whether a node binds an outlet.
func (s *served) binds(node, outlet int) bool {
	if !s.isBelow(outlet, node) || !s.isTight(node) {
		return false
	}
	class, share := s.Outlets[outlet].Class, s.shares[outlet]
	for i, x := range s.Outlets {
		takes := x.Class > class && s.shares[i] > 0 || x.Class == class && s.shares[i] > share+1
		if takes && s.isBelow(i, node) {
			return false
		}
	}
	return true
}

// isBelow reports whether an outlet is below a node.
func (s *served) isBelow(outlet, node int) bool {
	for above := range s.above(outlet) {
		if above == node {
			return true
		}
	}
	return false
}

func (s *served) isTight(node int) bool { return s.flows[node] == capacity(s.DroughtTree, node) }

// Why returns the first node that binds an outlet.
func Why(t api.DroughtTree, outlet int) (int, api.Errno) {
	if !isTree(t) || !isOutlet(t, outlet) {
		return 0, api.ErrArg
	}
	s := lawful(t)
	if !s.isServed(outlet) {
		for node := range s.flows {
			if s.binds(node, outlet) {
				return node, api.OK
			}
		}
	}
	return 0, api.ErrNone
}

// Cut returns the nodes of the cut.
func Cut(t api.DroughtTree) ([]int, api.Errno) {
	if !isTree(t) {
		return nil, api.ErrArg
	}
	s := lawful(t)
	var cut []int
nodes:
	for node := range s.flows {
		if !s.isTight(node) {
			continue
		}
		for above := range upFrom(t, node) {
			if above != node && s.isTight(above) {
				continue nodes
			}
		}
		cut = append(cut, node)
	}
	return cut, api.OK
}

// Widens returns all nodes that can be widened so that an outlet gets more.
func Widens(t api.DroughtTree, outlet int) ([]int, api.Errno) {
	if !isTree(t) || !isOutlet(t, outlet) {
		return nil, api.ErrArg
	}
	share := lawful(t).share(outlet)
	var nodes []int
	for node := range 1 + len(t.Nodes) {
		if lawful(widened(t, node)).share(outlet) > share {
			nodes = append(nodes, node)
		}
	}
	return nodes, api.OK
}

// widened returns a tree with a node whose capacity is greater by 1.
func widened(t api.DroughtTree, node int) api.DroughtTree {
	if node == source {
		return withInflow(t, t.Inflow+1)
	}
	t.Nodes = slices.Clone(t.Nodes)
	t.Nodes[node-1].Cap++
	return t
}
