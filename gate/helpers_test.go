package gate_test

import (
	"cmp"
	"math/rand/v2"
	"slices"

	"quinaria/api"
)

const huge = int(^uint(0) >> 1)

func list(n ...int) []int { return n }

func lists(x ...[]int) [][]int { return x }

func sameLists(a, b [][]int) bool { return slices.EqualFunc(a, b, slices.Equal) }

// points returns points with the bounds of a Spring and a Need, one after the other.
func points(n ...int) (all []api.GatePoint) {
	for i := 0; i < len(n); i += 3 {
		all = append(all, api.GatePoint{Spring: api.Span{Low: n[i], High: n[i+1]}, Need: n[i+2]})
	}
	return all
}

// net returns a network whose channels have From, To, Cups and a 1 if they have a gate, one after the other.
func net(all []api.GatePoint, n ...int) api.GateNet {
	x := api.GateNet{Points: all}
	for i := 0; i < len(n); i += 4 {
		x.Channels = append(x.Channels, api.GateChannel{From: n[i], To: n[i+1], Cups: n[i+2], Gate: n[i+3] == 1})
	}
	return x
}

// changed returns a network in memory of its own, with some change.
func changed(n api.GateNet, change func(*api.GateNet)) api.GateNet {
	n.Points, n.Channels = slices.Clone(n.Points), slices.Clone(n.Channels)
	change(&n)
	return n
}

// wanting returns a network one of whose points has another Need.
func wanting(n api.GateNet, point, need int) api.GateNet {
	return changed(n, func(n *api.GateNet) { n.Points[point].Need = need })
}

// rainy returns a network whose springs give as much as they can, and no more.
func rainy(n api.GateNet) api.GateNet {
	return changed(n, func(n *api.GateNet) {
		for i := range n.Points {
			n.Points[i].Spring.Low = n.Points[i].Spring.High
		}
	})
}

// netN is the chapter's network n.
func netN() api.GateNet {
	return net(points(100, 120, 0, 0, 0, 0, 0, 0, 40, 0, 0, 50), 0, 1, 100, 1, 0, 1, 95, 1, 1, 2, 50, 0, 1, 3, 60, 1, 2, 3, 30, 1)
}

// netM is the chapter's network m.
func netM() api.GateNet {
	return changed(netN(), func(n *api.GateNet) { n.Points[0].Spring.Low = 80 })
}

// smallNet is the network whose text the chapter shows.
func smallNet() api.GateNet { return net(points(5, 5, 0, 0, 0, 3), 0, 1, 4, 1) }

// fullNet is a network with as much of everything as there can be, and as long a text.
func fullNet() api.GateNet {
	const most = 10000
	return net(points(slices.Repeat(list(most, most, most), 7)...), 0, 1, most, 0, 1, 2, most, 1, 2, 3, most, 1, 3, 4, most, 1, 4, 5, most, 1, 5, 6, most, 1, 6, 0, most, 1, 6, 5, most, 1, 1, 0, most, 0, 0, 6, most, 0)
}

// onePoint is a network without channels.
func onePoint() api.GateNet { return net(points(7, 9, 7)) }

// dryNet is a network that is never fed.
func dryNet() api.GateNet { return net(points(0, 3, 0, 0, 0, 4), 0, 1, 9, 1, 0, 1, 9, 0) }

// idleNet is a network that wants nothing, with channels that carry nothing.
func idleNet() api.GateNet {
	return net(points(0, 0, 0, 0, 5, 0, 0, 0, 0), 0, 1, 0, 1, 1, 2, 0, 1, 2, 0, 0, 0)
}

// ringNet is a network whose channels go around, with two ways to each point.
func ringNet() api.GateNet {
	return net(points(9, 9, 1, 0, 0, 2, 0, 4, 3, 0, 0, 2), 0, 1, 6, 1, 1, 2, 5, 1, 2, 3, 4, 1, 3, 0, 2, 0, 0, 3, 6, 1, 3, 2, 4, 1, 2, 1, 2, 1)
}

// wideNet is a network with seven gates that are all alike, of which three must be open.
func wideNet() api.GateNet {
	return net(points(9, 12, 0, 0, 0, 9), slices.Repeat(list(0, 1, 3, 1), 7)...)
}

// ourNets are networks of all kinds.
func ourNets() []api.GateNet {
	return []api.GateNet{netN(), netM(), smallNet(), fullNet(), onePoint(), dryNet(), idleNet(), ringNet(), wideNet()}
}

// wrongNets are networks each of which is not as defined in one way.
func wrongNets() []api.GateNet {
	two := points(5, 5, 0, 0, 0, 3)
	wrong := []api.GateNet{
		{}, net(nil), net(nil, 0, 1, 4, 1), net(points(make([]int, 24)...)), net(points(make([]int, 300)...)), net(two, slices.Repeat(list(0, 1, 4, 0), 11)...), net(two, slices.Repeat(list(0, 1, 4, 1), 8)...),
		net(two, slices.Concat(slices.Repeat(list(0, 1, 4, 0), 2), slices.Repeat(list(1, 0, 4, 1), 8))...), net(points(6, 5, 0)), net(points(0, 10001, 0)), net(points(10001, 10001, 0)), net(points(0, 0, 10001)),
		net(points(5, 5, 0, 1, 0, 3)), net(two, 0, 0, 4, 1), net(two, 1, 1, 4, 0), net(two, 0, 2, 4, 1), net(two, 2, 0, 4, 1), net(two, 0, 1, 10001, 1), net(two, 0, 1, 4, 1, 1, 0, 10001, 0), net(points(1, 1, 1), 0, 1, 4, 1),
	}
	for _, n := range list(-1, huge, -huge-1) {
		wrong = append(wrong, net(points(n, 5, 0)), net(points(0, n, 0)), net(points(n, n, 0)), net(points(0, 5, n)), net(points(5, 5, 0, 0, 0, n)), net(two, n, 1, 4, 1), net(two, 1, n, 4, 1), net(two, n, n, 4, 1),
			net(two, 0, 1, n, 1), net(two, 0, 1, 4, 1, 1, 0, n, 0), net(two, 0, 1, 4, 1, n, 0, 4, 0))
	}
	return wrong
}

// wrongGates are lists that are neither positions nor channels to empty of the network n, whose gates are 0, 1, 3 and 4.
func wrongGates() [][]int {
	return lists(list(2), list(5), list(-1), list(huge), list(-huge-1), list(0, 0), list(1, 0), list(0, 1, 2), list(0, 2, 3), list(0, 3, 3), list(0, 4, 3), list(0, 1, 3, 4, 4), list(0, 1, 3, 4, 5), list(-1, 0), make([]int, 100000))
}

// gatesIn returns all channels with gates.
func gatesIn(n api.GateNet) (gates []int) {
	for k := range n.Channels {
		if n.Channels[k].Gate {
			gates = append(gates, k)
		}
	}
	return gates
}

// without returns a list without what another one has.
func without(list, other []int) (left []int) {
	for _, k := range list {
		if !slices.Contains(other, k) {
			left = append(left, k)
		}
	}
	return left
}

// toggled returns positions after some gates were moved.
func toggled(open, moves []int) []int {
	after := append(without(open, moves), without(moves, open)...)
	slices.Sort(after)
	return after
}

// partsOf returns all lists of some of these numbers, the shorter ones first, and those that are equally long in lexicographic order.
func partsOf(numbers []int) (parts [][]int) {
	for bits := range 1 << len(numbers) {
		var part []int
		for i, n := range numbers {
			if bits>>i&1 == 1 {
				part = append(part, n)
			}
		}
		parts = append(parts, part)
	}
	slices.SortFunc(parts, func(a, b []int) int { return cmp.Or(cmp.Compare(len(a), len(b)), slices.Compare(a, b)) })
	return parts
}

// somePart returns some of these numbers.
func somePart(r *rand.Rand, numbers []int) (part []int) {
	for _, n := range numbers {
		if r.IntN(2) == 0 {
			part = append(part, n)
		}
	}
	return part
}

// pipe carries water in the search for flows, up to its room.
type pipe struct{ from, to, room, flow int }

// flowsFor returns flows that feed a network, and whether there are some: water is led along one way after the other.
func flowsFor(n api.GateNet, open []int) ([]int, bool) {
	source, sink := len(n.Points), len(n.Points)+1
	var pipes []pipe
	for k, x := range n.Channels {
		pipes = append(pipes, pipe{x.From, x.To, carried(n, open, k), 0})
	}
	wanted := 0
	for i, x := range n.Points {
		pipes = append(pipes, pipe{source, i, x.Spring.Low, 0}, pipe{i, sink, x.Need, 0})
		wanted += x.Need
	}
	for led := 1; led > 0; wanted -= led {
		led = lead(pipes, source, sink, wanted, map[int]bool{})
	}
	var flows []int
	for _, x := range pipes[:len(n.Channels)] {
		flows = append(flows, x.flow)
	}
	return flows, wanted == 0
}

// carried returns how much a channel carries at most with positions.
func carried(n api.GateNet, open []int, channel int) int {
	if x := n.Channels[channel]; !x.Gate || slices.Contains(open, channel) {
		return x.Cups
	}
	return 0
}

// lead leads up to so many cups on along one way that has room, or takes them back from a pipe, and returns how many.
func lead(pipes []pipe, at, sink, cups int, met map[int]bool) int {
	if at == sink {
		return cups
	}
	met[at] = true
	for j := range pipes {
		x := &pipes[j]
		if x.from == at && x.flow < x.room && !met[x.to] {
			if led := lead(pipes, x.to, sink, min(cups, x.room-x.flow), met); led > 0 {
				x.flow += led
				return led
			}
		}
		if x.to == at && x.flow > 0 && !met[x.from] {
			if led := lead(pipes, x.from, sink, min(cups, x.flow), met); led > 0 {
				x.flow -= led
				return led
			}
		}
	}
	return 0
}

// isFed reports whether a network is surely fed, by flows.
func isFed(n api.GateNet, open []int) bool {
	_, is := flowsFor(n, open)
	return is
}

// isEmptied reports whether channels can be emptied.
func isEmptied(n api.GateNet, out []int) bool { return isFed(n, without(gatesIn(n), out)) }

// isFeeding reports whether flows feed a network, as the chapter defines it.
func isFeeding(n api.GateNet, open, flows []int) bool {
	for k, flow := range flows {
		if flow > carried(n, open, k) {
			return false
		}
	}
	for i, x := range n.Points {
		in, out := x.Spring.Low, x.Need
		for k, c := range n.Channels {
			if c.To == i {
				in += flows[k]
			}
			if c.From == i {
				out += flows[k]
			}
		}
		if in < out {
			return false
		}
	}
	return true
}

// isCut reports whether points are a cut, as the chapter defines it.
func isCut(n api.GateNet, open, points []int) bool {
	needs, comes := 0, 0
	for _, i := range points {
		needs += n.Points[i].Need
		comes += n.Points[i].Spring.Low
	}
	for k, x := range n.Channels {
		if slices.Contains(points, x.To) && !slices.Contains(points, x.From) {
			comes += carried(n, open, k)
		}
	}
	return needs > comes
}

// cutFor returns the first cut, and whether there is one.
func cutFor(n api.GateNet, open []int) ([]int, bool) {
	for _, part := range partsOf(list(0, 1, 2, 3, 4, 5, 6)[:len(n.Points)]) {
		if isCut(n, open, part) {
			return part, true
		}
	}
	return nil, false
}

// someNet returns a network with up to so many points, channels and gates, no number of cups of which is greater than most.
func someNet(r *rand.Rand, ends, channels, gates, most int) api.GateNet {
	var n api.GateNet
	for range 1 + r.IntN(ends) {
		x := api.GatePoint{Need: r.IntN(1 + most/3)}
		if len(n.Points) == 0 || r.IntN(3) == 0 {
			x.Spring.Low = r.IntN(most + 1)
			x.Spring.High = x.Spring.Low + r.IntN(most+1-x.Spring.Low)
			x.Need /= 2
		}
		n.Points = append(n.Points, x)
	}
	for many := r.IntN(channels + 1); len(n.Points) > 1 && len(n.Channels) < many; {
		x := api.GateChannel{From: r.IntN(len(n.Points)), To: r.IntN(len(n.Points)), Cups: r.IntN(most + 1)}
		x.Gate = len(gatesIn(n)) < gates && r.IntN(5) > 0
		if x.From != x.To {
			n.Channels = append(n.Channels, x)
		}
	}
	return n
}

// someNets returns our own networks and others of all sizes, most of which are fed with all gates open.
func someNets(r *rand.Rand, many, gates int) []api.GateNet {
	all := ourNets()
	all = slices.DeleteFunc(all, func(n api.GateNet) bool { return len(gatesIn(n)) > gates })
	for len(all) < many {
		x := someNet(r, 7, 10, gates, []int{3, 12, 100, 10000}[r.IntN(4)])
		if isFed(x, gatesIn(x)) || r.IntN(6) == 0 {
			all = append(all, x)
		}
	}
	return all
}

// sameNet reports whether two networks are the same value.
func sameNet(a, b api.GateNet) bool {
	return slices.Equal(a.Points, b.Points) && slices.Equal(a.Channels, b.Channels)
}

// isNone reports whether a network is the zero value.
func isNone(n api.GateNet) bool { return len(n.Points) == 0 && len(n.Channels) == 0 }
