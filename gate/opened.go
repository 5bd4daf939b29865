package gate

import (
	"slices"

	"quinaria/api"
)

// positions is, for each channel, whether its gate is open.
type positions [api.GateChannels]bool

// positionsOf returns the positions with these gates open.
func positionsOf(open []int) positions { return positions{}.moved(open) }

// moved returns positions after some gates were moved.
func (p positions) moved(gates []int) positions {
	for _, k := range gates {
		p[k] = !p[k]
	}
	return p
}

// opened is a network with positions.
type opened struct {
	api.GateNet
	isOpen positions
}

// withOpen returns a network with these gates open.
func withOpen(n api.GateNet, open []int) opened { return opened{n, positionsOf(open)} }

// emptied returns a network with all gates open but those of channels to empty.
func emptied(n api.GateNet, out []int) opened {
	return opened{n, positionsOf(gatesOf(n)).moved(out)}
}

// gatesOf returns all channels with gates.
func gatesOf(n api.GateNet) (gates []int) {
	for k, x := range n.Channels {
		if x.Gate {
			gates = append(gates, k)
		}
	}
	return gates
}

// carries returns how much goes through a channel at most.
func (o opened) carries(channel int) int {
	x := o.Channels[channel]
	if x.Gate && !o.isOpen[channel] {
		return 0
	}
	return x.Cups
}

// end is one of both ends of a spring.
type end int

const (
	low end = iota
	high
	bothEnds
)

type point api.GatePoint

// least returns how many cups surely come from springs at a point.
func (x point) least() int { return x.Spring.Low }

// most returns how many cups can come from springs at a point.
func (x point) most() int { return x.Spring.High }

// left returns how many cups springs leave at a point after its Need; fewer
// than none if it wants more than they give.
func (o opened) left(i int, e end) int {
	springs := [bothEnds]func(point) int{low: point.least, high: point.most}
	x := o.Points[i]
	return springs[e](point(x)) - x.Need
}

// spare returns how many cups more than they need can come to some points
// together; fewer than none come to those of a cut.
func (o opened) spare(points []int, e end) int {
	var cups []int
	for _, i := range points {
		cups = append(cups, o.left(i, e))
	}
	for k, x := range o.Channels {
		if slices.Contains(points, x.To) && !slices.Contains(points, x.From) {
			cups = append(cups, o.carries(k))
		}
	}
	return sum(cups...)
}

// dry is what feeding gives up with: some points want more than can come to them.
type dry struct{}

// feed gives up if no flows feed a network with these ends of its springs,
// which is just so if some points are a cut.
func (o opened) feed(e end) {
	for points := range lists(o.points()) {
		must(o.spare(points, e) >= 0, dry{})
	}
}

func (o opened) isFed(e end) bool {
	return attempt(func() { o.feed(e) }) == api.OK
}

// isFedBy reports whether flows feed a network.
func (o opened) isFedBy(flows []int) bool {
	var left []int
	for i := range len(o.Points) {
		left = append(left, o.left(i, low))
	}
	for k, x := range o.Channels {
		if flows[k] > o.carries(k) {
			return false
		}
		left[x.From] -= flows[k]
		left[x.To] += flows[k]
	}
	return all(left, func(cups int) bool { return cups >= 0 })
}

// firstCut returns the first cut, and whether there is one.
func (o opened) firstCut() ([]int, bool) {
	return shortest(o.points(), func(points []int) bool { return o.spare(points, low) < 0 })
}

// points returns all points.
func (o opened) points() (points []int) {
	for i := range len(o.Points) {
		points = append(points, i)
	}
	return points
}
