package gate

import (
	"iter"
	"slices"

	"quinaria/api"
)

// moment is when a step of an order is next, with the positions before it.
type moment struct {
	step   int
	before positions
}

// way is how a plan goes on: the next positions, and how many gates are moved
// from a moment on until its end.
type way struct {
	open  []int
	moves int
}

// planning looks for the best plan for an order of channels, each of which can be emptied alone.
type planning struct {
	order []int
	// feeding is all positions with which the network is surely fed.
	feeding [][]int
	// found is the best ways of all moments that were met.
	found map[moment]way
}

// Plan returns the best plan for an order, and its moves.
func Plan(n api.GateNet, open, order []int) ([][]int, int, api.Errno) {
	if !isNet(n) || !areGates(n, open) || !isOrder(n, order) {
		return nil, 0, api.ErrArg
	}
	if !canEachBeEmptied(n, order) {
		return nil, 0, api.ErrNone
	}
	plan, moves := planFor(n, order).from(moment{before: positionsOf(open)})
	return plan, moves, api.OK
}

func planFor(n api.GateNet, order []int) planning {
	feeding := those(gatesOf(n), func(open []int) bool { return withOpen(n, open).isFed(low) })
	return planning{order, slices.Collect(feeding), map[moment]way{}}
}

// from returns the positions of the best ways from a moment on, and all moves.
func (p planning) from(m moment) (plan [][]int, moves int) {
	moves = p.best(m).moves
	for m.step < len(p.order) {
		open := p.best(m).open
		plan = append(plan, slices.Clone(open))
		m = m.after(open)
	}
	return plan, moves
}

// after returns the moment after the positions of a step.
func (m moment) after(open []int) moment { return moment{m.step + 1, positionsOf(open)} }

// best returns the best way from a moment on.
func (p planning) best(m moment) way {
	if m.step == len(p.order) {
		return way{}
	}
	if _, known := p.found[m]; !known {
		next, _ := best(p.ways(m), func(a, b way) bool { return a.moves < b.moves })
		p.found[m] = next
	}
	return p.found[m]
}

// ways goes through the next positions from a moment on, in lexicographic
// order, each with the fewest moves until the end.
func (p planning) ways(m moment) iter.Seq[way] {
	return func(yield func(way) bool) {
		for _, open := range p.feeding {
			if slices.Contains(open, p.order[m.step]) {
				continue
			}
			next := m.after(open)
			moves := m.before.movesTo(next.before) + p.best(next).moves
			if !yield(way{open, moves}) {
				return
			}
		}
	}
}

// movesTo returns how many gates are moved from positions to other ones.
func (p positions) movesTo(other positions) (moves int) {
	for k, isOpen := range p {
		if isOpen != other[k] {
			moves++
		}
	}
	return moves
}
