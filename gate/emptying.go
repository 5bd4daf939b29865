package gate

import (
	"slices"

	"quinaria/api"
)

// Moves returns the fewest gates that must be moved so that channels are emptied.
func Moves(n api.GateNet, open, out []int) ([]int, api.Errno) {
	if !isNet(n) || !areGates(n, open) || !areGates(n, out) {
		return nil, api.ErrArg
	}
	before := positionsOf(open)
	return orNone(shortest(gatesOf(n), func(moves []int) bool {
		o := opened{n, before.moved(moves)}
		return o.isOpen.areClosed(out) && o.isFed(low)
	}))
}

// areClosed reports whether none of some gates is open.
func (p positions) areClosed(gates []int) bool {
	return all(gates, func(k int) bool { return !p[k] })
}

// Proof returns the first cut that proves that channels cannot be emptied.
func Proof(n api.GateNet, out []int) ([]int, api.Errno) {
	if !isNet(n) || !areGates(n, out) {
		return nil, api.ErrArg
	}
	return orNone(emptied(n, out).firstCut())
}

// Vital returns all channels that cannot be emptied.
func Vital(n api.GateNet) ([]int, api.Errno) {
	if !isNet(n) {
		return nil, api.ErrArg
	}
	return slices.DeleteFunc(gatesOf(n), func(k int) bool { return canBeEmptied(n, k) }), api.OK
}

// canBeEmptied reports whether some channels can be emptied together.
func canBeEmptied(n api.GateNet, out ...int) bool { return emptied(n, out).isFed(low) }

// canEachBeEmptied reports whether each of some channels can be emptied alone.
func canEachBeEmptied(n api.GateNet, channels []int) bool {
	return all(channels, func(k int) bool { return canBeEmptied(n, k) })
}

// Together returns the most channels that can be emptied at once.
func Together(n api.GateNet, out []int) ([]int, api.Errno) {
	if !isNet(n) || !areGates(n, out) {
		return nil, api.ErrArg
	}
	return orNone(longest(out, func(some []int) bool { return canBeEmptied(n, some...) }))
}

// Rounds returns the best rounds in which channels are emptied.
func Rounds(n api.GateNet, out []int) ([]int, api.Errno) {
	if !isNet(n) || !areGates(n, out) {
		return nil, api.ErrArg
	}
	if !canBeEmptied(n) || !canEachBeEmptied(n, out) {
		return nil, api.ErrNone
	}
	return roundsFor(n, out).best(), api.OK
}
