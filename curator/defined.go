package curator

import (
	"slices"

	"quinaria/api"
	"quinaria/drought"
	"quinaria/gate"
	"quinaria/grant"
	"quinaria/leak"
)

func isSuite(s api.CuratorSuite) bool {
	return grant.Check(s.Register) == api.OK && len(s.Register.Events) == 0 && isFed(s) &&
		leak.Check(s.Line) == api.OK && len(s.Line.Counts) == 0 && drought.Check(s.Tree) == api.OK
}

// isFed reports whether the network is as defined, and surely fed with the gates that are open.
func isFed(s api.CuratorSuite) bool {
	fed, e := gate.Fed(s.Net, s.Open)
	return e == api.OK && fed == api.GateSurely
}

// gatesOf returns all channels with gates.
func gatesOf(n api.GateNet) (gates []int) {
	for k := range len(n.Channels) {
		if n.Channels[k].Gate {
			gates = append(gates, k)
		}
	}
	return gates
}

// copied returns a suite in memory of its own.
func copied(s api.CuratorSuite) api.CuratorSuite {
	s.Register.Table.Rows = slices.Clone(s.Register.Table.Rows)
	s.Register.Owners = slices.Clone(s.Register.Owners)
	s.Register.Events = slices.Clone(s.Register.Events)
	s.Net.Points = slices.Clone(s.Net.Points)
	s.Net.Channels = slices.Clone(s.Net.Channels)
	s.Open = slices.Clone(s.Open)
	s.Line.Gives = slices.Clone(s.Line.Gives)
	s.Line.Counts = slices.Clone(s.Line.Counts)
	s.Tree.Nodes = slices.Clone(s.Tree.Nodes)
	s.Tree.Outlets = slices.Clone(s.Tree.Outlets)
	return s
}
