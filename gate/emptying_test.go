package gate_test

import (
	"math/rand/v2"
	"slices"
	"testing"

	"quinaria/api"
	"quinaria/gate"
)

// P8.4: the chapter's examples, positions that are not fed, and channels that are empty already.
func TestMoves(t *testing.T) {
	for i, x := range []struct {
		n         api.GateNet
		open, out []int
		want      []int
		e         api.Errno
	}{
		{netN(), list(0, 3), list(0), list(0, 1), api.OK}, {netN(), list(0, 3), list(4), nil, api.OK}, {netN(), list(0, 3), list(3), nil, api.ErrNone}, {netN(), list(0, 3), nil, nil, api.OK},
		{netN(), list(0, 3), list(1, 4), nil, api.OK}, {netN(), nil, nil, list(0, 3), api.OK}, {netN(), nil, list(0), list(1, 3), api.OK}, {netN(), list(4), list(4), list(0, 3, 4), api.OK}, {netN(), list(4), nil, list(0, 3), api.OK},
		{netN(), list(0, 1, 3, 4), list(0), list(0), api.OK}, {netN(), list(0, 1, 3, 4), list(0, 4), list(0, 4), api.OK}, {netN(), list(0, 3), list(0, 1), nil, api.ErrNone}, {netM(), list(0, 3), nil, nil, api.ErrNone},
		{netM(), list(0, 1, 3, 4), list(4), nil, api.ErrNone}, {smallNet(), list(0), list(0), nil, api.ErrNone}, {smallNet(), nil, nil, list(0), api.OK}, {fullNet(), list(1, 2, 3, 4, 5, 6, 7), list(1, 2, 3, 4, 5, 6, 7), list(1, 2, 3, 4, 5, 6, 7), api.OK},
		{fullNet(), nil, list(1, 2, 3, 4, 5, 6, 7), nil, api.OK}, {onePoint(), nil, nil, nil, api.OK}, {wanting(onePoint(), 0, 8), nil, nil, nil, api.ErrNone}, {idleNet(), list(0, 1), list(1), list(1), api.OK},
		{wideNet(), list(0, 1, 2), list(1), list(1, 3), api.OK}, {wideNet(), list(4, 5, 6), list(5, 6), list(0, 1, 5, 6), api.OK}, {wideNet(), list(4, 5, 6), list(0, 1, 2), nil, api.OK}, {wideNet(), nil, list(0, 1, 2, 3, 4), nil, api.ErrNone},
		{wideNet(), nil, list(0, 2, 4, 6), list(1, 3, 5), api.OK},
	} {
		if y, e := gate.Moves(x.n, x.open, x.out); !slices.Equal(y, x.want) || e != x.e {
			t.Error(i, y, e)
		}
	}
}

// P8.4, P0.8: networks of all kinds; the channels are closed and the network is fed after the moves, and no fewer moves do it.
func TestMovesEach(t *testing.T) {
	r := rand.New(rand.NewPCG(8, 6))
	for _, x := range someNets(r, 400, 7) {
		gates := gatesIn(x)
		parts := partsOf(gates)
		for range 5 {
			open, out := somePart(r, gates), somePart(r, somePart(r, gates))
			want, some := firstOf(parts, func(moves []int) bool {
				after := toggled(open, moves)
				return len(without(out, after)) == len(out) && isFed(x, after)
			})
			y, e := gate.Moves(x, open, out)
			if !slices.Equal(y, want) || (e == api.OK) != some || !some && e != api.ErrNone || some != isEmptied(x, out) {
				t.Error(x, open, out, y, e)
			}
		}
	}
}

// P8.5: the chapter's examples, no channels to empty, and a network that is not fed at all.
func TestProof(t *testing.T) {
	for i, x := range []struct {
		n    api.GateNet
		out  []int
		want []int
		e    api.Errno
	}{
		{netN(), list(3), list(3), api.OK}, {netN(), list(0, 1), list(1, 2), api.OK}, {netN(), list(0, 4), nil, api.ErrNone}, {netN(), nil, nil, api.ErrNone}, {netN(), list(0), nil, api.ErrNone}, {netN(), list(0, 1, 3, 4), list(3), api.OK},
		{netM(), nil, list(0, 1, 2, 3), api.OK}, {netM(), list(0), list(0, 1, 2, 3), api.OK}, {smallNet(), nil, nil, api.ErrNone}, {smallNet(), list(0), list(1), api.OK}, {fullNet(), list(1, 2, 3, 4, 5, 6, 7), nil, api.ErrNone},
		{onePoint(), nil, nil, api.ErrNone}, {wanting(onePoint(), 0, 8), nil, list(0), api.OK}, {wideNet(), list(0, 1, 2, 3), nil, api.ErrNone}, {wideNet(), list(0, 1, 2, 3, 6), list(1), api.OK}, {dryNet(), list(0), list(0, 1), api.OK},
	} {
		if y, e := gate.Proof(x.n, x.out); !slices.Equal(y, x.want) || e != x.e {
			t.Error(i, y, e)
		}
	}
}

// P8.5, P0.8: all channels to empty of networks of all kinds: some positions do it, or a cut proves that none do.
func TestProofEach(t *testing.T) {
	for _, x := range someNets(rand.New(rand.NewPCG(8, 7)), 150, 5) {
		gates := gatesIn(x)
		for _, out := range partsOf(gates) {
			want, some := cutFor(x, without(gates, out))
			y, e := gate.Proof(x, out)
			if !slices.Equal(y, want) || (e == api.OK) != some || !some && e != api.ErrNone {
				t.Error(x, out, y, e)
			}
			can := false
			for _, open := range partsOf(without(gates, out)) {
				can = can || isFed(x, open)
				if some && !isCut(x, open, y) {
					t.Error(x, out, y, open)
				}
			}
			if can == some {
				t.Error(x, out, y, can)
			}
		}
	}
}

// P8.5: the chapter's example, no channel, and each one.
func TestVital(t *testing.T) {
	for i, x := range []struct {
		n    api.GateNet
		want []int
	}{
		{netN(), list(3)}, {netM(), list(0, 1, 3, 4)}, {smallNet(), list(0)}, {fullNet(), nil}, {onePoint(), nil}, {wanting(onePoint(), 0, 8), nil}, {idleNet(), nil}, {dryNet(), list(0)}, {wideNet(), nil},
		{wanting(netN(), 1, 6), list(0, 3)}, {wanting(netN(), 3, 61), list(0, 1, 3, 4)}, {changed(wanting(netN(), 3, 61), func(n *api.GateNet) { n.Points[0].Spring.Low = 101 }), list(0, 1, 3, 4)},
		{changed(wanting(netN(), 3, 55), func(n *api.GateNet) { n.Channels[3].Cups = 54 }), list(3, 4)},
	} {
		if y, e := gate.Vital(x.n); !slices.Equal(y, x.want) || e != api.OK {
			t.Error(i, y, e)
		}
	}
}

// P8.5: networks of all kinds.
func TestVitalEach(t *testing.T) {
	for _, x := range someNets(rand.New(rand.NewPCG(8, 8)), 600, 7) {
		var want []int
		for _, k := range gatesIn(x) {
			if !isEmptied(x, list(k)) {
				want = append(want, k)
			}
		}
		if y, e := gate.Vital(x); !slices.Equal(y, want) || e != api.OK {
			t.Error(x, y, e)
		}
	}
}

// P8.7: the chapter's example, none of some channels, and no channels.
func TestTogether(t *testing.T) {
	for i, x := range []struct {
		n    api.GateNet
		out  []int
		want []int
		e    api.Errno
	}{
		{netN(), list(0, 1, 4), list(0, 4), api.OK}, {netN(), list(0, 1, 3, 4), list(0, 4), api.OK}, {netN(), list(0, 1), list(0), api.OK}, {netN(), list(3), nil, api.OK}, {netN(), nil, nil, api.OK}, {netN(), list(1, 3, 4), list(1, 4), api.OK},
		{netM(), list(0, 1), nil, api.ErrNone}, {netM(), nil, nil, api.ErrNone}, {smallNet(), list(0), nil, api.OK}, {fullNet(), list(1, 2, 3, 4, 5, 6, 7), list(1, 2, 3, 4, 5, 6, 7), api.OK}, {onePoint(), nil, nil, api.OK},
		{wanting(onePoint(), 0, 8), nil, nil, api.ErrNone}, {wideNet(), list(0, 1, 2, 3, 4, 5, 6), list(0, 1, 2, 3), api.OK}, {wideNet(), list(1, 2, 4, 5, 6), list(1, 2, 4, 5), api.OK}, {wideNet(), list(2, 5), list(2, 5), api.OK},
		{dryNet(), list(0), nil, api.ErrNone},
	} {
		if y, e := gate.Together(x.n, x.out); !slices.Equal(y, x.want) || e != x.e {
			t.Error(i, y, e)
		}
	}
}

// P8.7: networks of all kinds; no longer list, and none that is as long and before it, can be emptied.
func TestTogetherEach(t *testing.T) {
	r := rand.New(rand.NewPCG(8, 9))
	for _, x := range someNets(r, 500, 7) {
		out := somePart(r, gatesIn(x))
		if r.IntN(2) == 0 {
			out = gatesIn(x)
		}
		var want []int
		for _, part := range partsOf(out) {
			if isEmptied(x, part) && len(part) > len(want) {
				want = part
			}
		}
		e := api.OK
		if !isEmptied(x, nil) {
			e = api.ErrNone
		}
		if y, f := gate.Together(x, out); !slices.Equal(y, want) || e != f {
			t.Error(x, out, y, e, f)
		}
	}
}

// P8.7: the chapter's example, channels that cannot be emptied, and no channels.
func TestRounds(t *testing.T) {
	for i, x := range []struct {
		n    api.GateNet
		out  []int
		want []int
		e    api.Errno
	}{
		{netN(), list(0, 1, 4), list(0, 1, 0), api.OK}, {netN(), list(0, 1), list(0, 1), api.OK}, {netN(), list(4), list(0), api.OK}, {netN(), nil, nil, api.OK}, {netN(), list(0, 3), nil, api.ErrNone}, {netN(), list(3), nil, api.ErrNone},
		{netM(), nil, nil, api.ErrNone}, {netM(), list(4), nil, api.ErrNone}, {smallNet(), list(0), nil, api.ErrNone}, {smallNet(), nil, nil, api.OK}, {fullNet(), list(1, 2, 3, 4, 5, 6, 7), list(0, 0, 0, 0, 0, 0, 0), api.OK},
		{onePoint(), nil, nil, api.OK}, {wanting(onePoint(), 0, 8), nil, nil, api.ErrNone}, {wideNet(), list(0, 1, 2, 3, 4, 5, 6), list(0, 0, 0, 0, 1, 1, 1), api.OK}, {wideNet(), list(0, 2, 4, 6), list(0, 0, 0, 0), api.OK},
		{wanting(wideNet(), 1, 7), list(0, 1, 2, 3, 4, 5, 6), list(0, 0, 0, 0, 1, 1, 1), api.OK}, {wanting(changed(wideNet(), func(n *api.GateNet) { n.Channels[3].Cups = 1 }), 1, 9), list(0, 1, 2, 3, 4, 5, 6), list(0, 0, 0, 0, 1, 1, 1), api.OK},
		{lameNet(), list(0, 1, 2, 3, 4, 5, 6), list(0, 1, 2, 3, 4, 5, 6), api.OK}, {pairNet(), list(0, 1, 2, 3, 4, 5), list(0, 1, 0, 1, 0, 1), api.OK}, {oddNet(), list(0, 1, 2, 3), list(0, 1, 0, 1), api.OK}, {oddNet(), list(0, 1, 2), list(0, 0, 1), api.OK},
	} {
		if y, e := gate.Rounds(x.n, x.out); !slices.Equal(y, x.want) || e != x.e {
			t.Error(i, y, e)
		}
	}
}

// lameNet is a network of which only one of seven channels can be emptied at once.
func lameNet() api.GateNet {
	return net(points(9, 12, 0, 0, 0, 6), slices.Repeat(list(0, 1, 1, 1), 7)...)
}

// pairNet is a network with two channels to each point, one of which must be open.
func pairNet() api.GateNet {
	return net(points(9, 9, 0, 0, 0, 3, 0, 0, 3, 0, 0, 3), 0, 1, 3, 1, 0, 1, 3, 1, 0, 2, 3, 1, 0, 2, 4, 1, 0, 3, 5, 1, 0, 3, 3, 1)
}

// oddNet is a network whose first channel can be emptied with the second one, but two rounds are enough only if it is with the third one.
func oddNet() api.GateNet {
	return net(points(20, 20, 0, 0, 0, 10), 0, 1, 3, 1, 0, 1, 6, 1, 0, 1, 7, 1, 0, 1, 4, 1)
}

// P8.7: networks of all kinds; no rounds that are fewer, and none that are as many and before them, will do.
func TestRoundsEach(t *testing.T) {
	r := rand.New(rand.NewPCG(8, 10))
	for _, x := range someNets(r, 250, 6) {
		out := slices.DeleteFunc(gatesIn(x), func(k int) bool { return r.IntN(3) > 0 && !isEmptied(x, list(k)) })
		want, some := roundsOf(x, out)
		if y, e := gate.Rounds(x, out); !slices.Equal(y, want) || (e == api.OK) != some || !some && e != api.ErrNone {
			t.Error(x, out, y, e)
		}
	}
}

// roundsOf returns the best rounds, from all that there are, and whether there are some.
func roundsOf(n api.GateNet, out []int) (best []int, some bool) {
	for _, rounds := range allRounds(len(out)) {
		if areRounds(n, out, rounds) && (!some || slices.Max(rounds) < slices.Max(best)) {
			best, some = rounds, true
		}
	}
	return best, some
}

// allRounds returns all rounds for so many channels, in lexicographic order.
func allRounds(channels int) [][]int {
	all := lists(nil)
	for range channels {
		var longer [][]int
		for _, rounds := range all {
			for round := range slices.Max(append(rounds, -1)) + 2 {
				longer = append(longer, append(slices.Clone(rounds), round))
			}
		}
		all = longer
	}
	return all
}

// areRounds reports whether all channels with the same number can be emptied together, and the network is fed at all.
func areRounds(n api.GateNet, out, rounds []int) bool {
	for round := range len(rounds) {
		var together []int
		for i, k := range out {
			if rounds[i] == round {
				together = append(together, k)
			}
		}
		if !isEmptied(n, together) {
			return false
		}
	}
	return isEmptied(n, nil)
}

// P8.9: what can be emptied together can be emptied in parts.
func TestEmptiedInParts(t *testing.T) {
	r := rand.New(rand.NewPCG(8, 11))
	for _, x := range someNets(r, 300, 7) {
		together, e := gate.Together(x, gatesIn(x))
		if e != api.OK {
			continue
		}
		for _, part := range partsOf(together) {
			if y, e := gate.Proof(x, part); e != api.ErrNone {
				t.Error(x, part, y, e)
			}
			if y, e := gate.Rounds(x, part); e != api.OK || len(part) > 0 && slices.Max(y) > 0 {
				t.Error(x, part, y, e)
			}
			if y, e := gate.Moves(x, somePart(r, gatesIn(x)), part); e != api.OK {
				t.Error(x, part, y, e)
			}
		}
	}
}
