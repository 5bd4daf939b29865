package gate_test

import (
	"math/rand/v2"
	"slices"
	"testing"

	"quinaria/api"
	"quinaria/gate"
)

// P8.6: the chapter's examples, channels that come again, and channels that cannot be emptied.
func TestPlan(t *testing.T) {
	for i, x := range []struct {
		n           api.GateNet
		open, order []int
		want        [][]int
		moves       int
		e           api.Errno
	}{
		{netN(), list(0, 3), list(0, 1), lists(list(1, 3), list(0, 3)), 4, api.OK}, {netN(), list(0, 3), list(4, 1), lists(list(0, 3), list(0, 3)), 0, api.OK}, {netN(), list(0, 3), list(1), lists(list(0, 3)), 0, api.OK},
		{netN(), list(0, 3), list(0), lists(list(1, 3)), 2, api.OK}, {netN(), nil, list(4), lists(list(0, 3)), 2, api.OK}, {netN(), nil, list(4, 0), lists(list(1, 3), list(1, 3)), 2, api.OK},
		{netN(), list(0, 1, 3, 4), list(4, 1, 0, 4), lists(list(0, 1, 3), list(0, 3), list(1, 3), list(1, 3)), 4, api.OK}, {netN(), list(0, 1, 3, 4), list(0, 0, 0, 0), lists(list(1, 3, 4), list(1, 3, 4), list(1, 3, 4), list(1, 3, 4)), 1, api.OK},
		{netN(), list(0, 3), list(0, 1, 0, 1), lists(list(1, 3), list(0, 3), list(1, 3), list(0, 3)), 8, api.OK}, {netN(), list(0, 3), list(1, 3), nil, 0, api.ErrNone}, {netN(), list(0, 3), list(3, 1), nil, 0, api.ErrNone},
		{netM(), list(0, 3), list(4), nil, 0, api.ErrNone}, {smallNet(), list(0), list(0), nil, 0, api.ErrNone}, {fullNet(), list(1), list(1, 7), lists(nil, nil), 1, api.OK}, {fullNet(), list(2, 7), list(1, 1), lists(list(2, 7), list(2, 7)), 0, api.OK},
		{wideNet(), list(0, 1, 2), list(0, 1, 2), lists(list(1, 2, 3), list(0, 2, 3), list(0, 1, 3)), 6, api.OK}, {wideNet(), list(4, 5, 6), list(0, 6, 0), lists(list(1, 4, 5), list(1, 4, 5), list(1, 4, 5)), 2, api.OK}, {idleNet(), list(0), list(1, 0), lists(nil, nil), 1, api.OK},
		{vitalNet(), nil, list(0, 0, 0, 6), nil, 0, api.ErrNone}, {vitalNet(), nil, list(0, 1, 2, 3), lists(list(6), list(6), list(6), list(6)), 1, api.OK},
	} {
		if y, moves, e := gate.Plan(x.n, x.open, x.order); !sameLists(y, x.want) || moves != x.moves || e != x.e {
			t.Error(i, y, moves, e)
		}
	}
}

// vitalNet is a network with seven gates, of which only the last one matters.
func vitalNet() api.GateNet {
	return net(points(9, 9, 0, 0, 0, 4), append(slices.Repeat(list(0, 1, 0, 1), 6), 0, 1, 4, 1)...)
}

// P8.6: lists that are no orders.
func TestPlanWrong(t *testing.T) {
	for _, order := range lists(nil, list(2), list(5), list(-1), list(0, 2), list(0, 1, 4, 5), list(0, 1, 3, -1), list(0, 1, 0, 1, 0), list(3, 3, 3, 3, 3), list(huge), list(1, -huge-1), make([]int, 100000)) {
		for _, x := range []api.GateNet{netN(), netM()} {
			if y, moves, e := gate.Plan(x, list(0, 3), order); len(y) > 0 || moves != 0 || e != api.ErrArg {
				t.Error(x, order, y, moves, e)
			}
		}
	}
	for _, x := range []api.GateNet{onePoint(), net(points(1, 1, 0, 0, 0, 0), 0, 1, 4, 0)} {
		if y, moves, e := gate.Plan(x, nil, list(0)); len(y) > 0 || moves != 0 || e != api.ErrArg {
			t.Error(x, y, moves, e)
		}
	}
}

// P8.6: networks of all kinds; no plan of all that there are has fewer moves, or as many and is before it.
func TestPlanEach(t *testing.T) {
	r := rand.New(rand.NewPCG(8, 12))
	for _, x := range someNets(r, 600, 4) {
		gates := gatesIn(x)
		if len(gates) == 0 {
			continue
		}
		open := somePart(r, gates)
		for steps := 1; steps <= 4; steps++ {
			var order []int
			for range steps {
				order = append(order, gates[r.IntN(len(gates))])
			}
			want, fewest := planOf(x, open, order)
			y, moves, e := gate.Plan(x, open, order)
			if !sameLists(y, want) || moves != fewest || (e == api.OK) != (len(want) > 0) || e != api.OK && e != api.ErrNone {
				t.Error(x, open, order, y, moves, e, want, fewest)
			}
		}
	}
}

// planOf returns the best plan of all that there are, and its moves.
func planOf(n api.GateNet, open, order []int) (best [][]int, fewest int) {
	for _, plan := range allPlans(n, order) {
		moves := movesOf(open, plan)
		if len(best) == 0 || moves < fewest || moves == fewest && slices.CompareFunc(plan, best, slices.Compare) < 0 {
			best, fewest = plan, moves
		}
	}
	return best, fewest
}

// allPlans returns all plans for an order.
func allPlans(n api.GateNet, order []int) [][][]int {
	feeding := slices.DeleteFunc(partsOf(gatesIn(n)), func(open []int) bool { return !isFed(n, open) })
	all := [][][]int{nil}
	for _, k := range order {
		var longer [][][]int
		for _, plan := range all {
			for _, open := range feeding {
				if !slices.Contains(open, k) {
					longer = append(longer, append(slices.Clone(plan), open))
				}
			}
		}
		all = longer
	}
	return all
}

// movesOf returns the moves of a plan from the positions at the beginning.
func movesOf(open []int, plan [][]int) (moves int) {
	for _, next := range plan {
		moves += len(without(open, next)) + len(without(next, open))
		open = next
	}
	return moves
}

// P8.6, P8.4: a plan of one step has the fewest moves; longer ones, also with all gates, have no more than their steps one by one.
func TestPlanAndMoves(t *testing.T) {
	r := rand.New(rand.NewPCG(8, 13))
	for _, x := range someNets(r, 300, 7) {
		gates := gatesIn(x)
		if len(gates) == 0 {
			continue
		}
		begin := somePart(r, gates)
		open, order, sum := begin, list(), 0
		for range 4 {
			k := gates[r.IntN(len(gates))]
			order = append(order, k)
			moves, e := gate.Moves(x, open, list(k))
			open, sum = toggled(open, moves), sum+len(moves)
			plan, fewest, f := gate.Plan(x, begin, order)
			if e != f || e == api.OK && (fewest > sum || len(order) == 1 && fewest != sum || fewest != movesOf(begin, plan)) {
				t.Error(x, begin, order, plan, fewest, sum, e, f)
			}
			if f != api.OK {
				break
			}
			for i, open := range plan {
				if word, e := gate.Fed(x, open); word != api.GateSurely || e != api.OK || slices.Contains(open, order[i]) {
					t.Error(x, order, plan, word, e)
				}
			}
		}
	}
}
