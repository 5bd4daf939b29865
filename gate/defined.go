package gate

import (
	"slices"

	"quinaria/api"
)

func isNet(n api.GateNet) bool {
	return isFrom(1, api.GatePoints, len(n.Points)) && len(n.Channels) <= api.GateChannels &&
		all(n.Points, isGatePoint) &&
		all(n.Channels, func(x api.GateChannel) bool { return isChannel(n, x) }) &&
		len(gatesOf(n)) <= api.GateGates
}

func isGatePoint(x api.GatePoint) bool {
	return areCups(x.Spring.Low) && isFrom(x.Spring.Low, api.GateCups, x.Spring.High) && areCups(x.Need)
}

func isChannel(n api.GateNet, x api.GateChannel) bool {
	return isPoint(n, x.From) && isPoint(n, x.To) && x.From != x.To && areCups(x.Cups)
}

func isPoint(n api.GateNet, point int) bool { return isFrom(0, len(n.Points)-1, point) }

// isGate reports whether a network has a channel with this number, and with a gate.
func isGate(n api.GateNet, channel int) bool {
	return isFrom(0, len(n.Channels)-1, channel) && n.Channels[channel].Gate
}

// areGates reports whether a list is positions, or channels to empty, of a network.
func areGates(n api.GateNet, list []int) bool {
	from := 0
	for _, k := range list {
		if k < from || !isGate(n, k) {
			return false
		}
		from = k + 1
	}
	return true
}

func isOrder(n api.GateNet, order []int) bool {
	return isFrom(1, api.GateSteps, len(order)) && all(order, func(k int) bool { return isGate(n, k) })
}

func areFlows(n api.GateNet, flows []int) bool {
	return len(flows) == len(n.Channels) && all(flows, areCups)
}

func areCups(cups int) bool { return isFrom(0, api.GateCups, cups) }

func isFrom(low, high, n int) bool { return low <= n && n <= high }

func all[T any](list []T, right func(T) bool) bool {
	return !slices.ContainsFunc(list, func(x T) bool { return !right(x) })
}
