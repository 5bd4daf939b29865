package gate_test

import (
	"math/rand/v2"
	"slices"
	"testing"

	"quinaria/api"
	"quinaria/gate"
)

// P8.1: networks, also at the limits, and what is none.
func TestCheck(t *testing.T) {
	for i, x := range ourNets() {
		if e := gate.Check(x); e != api.OK {
			t.Error(i, e)
		}
	}
	for i, x := range wrongNets() {
		if e := gate.Check(x); e != api.ErrArg {
			t.Error(i, x, e)
		}
	}
}

// P8.1: each number of a network is tried at and beyond both of its bounds.
func TestCheckBounds(t *testing.T) {
	for i, set := range []func(n *api.GateNet, k int){
		func(n *api.GateNet, k int) { n.Points[0].Spring.Low = k },
		func(n *api.GateNet, k int) { n.Points[0].Spring.High = k },
		func(n *api.GateNet, k int) { n.Points[3].Spring = api.Span{Low: k, High: k} },
		func(n *api.GateNet, k int) { n.Points[1].Need = k },
		func(n *api.GateNet, k int) { n.Channels[0].From = k },
		func(n *api.GateNet, k int) { n.Channels[0].To = k },
		func(n *api.GateNet, k int) { n.Channels[2].From = k },
		func(n *api.GateNet, k int) { n.Channels[4].To = k },
		func(n *api.GateNet, k int) { n.Channels[4].Cups = k },
	} {
		for _, k := range list(-huge-1, -2, -1, 0, 1, 2, 3, 4, 5, 99, 100, 101, 119, 120, 121, 9999, 10000, 10001, huge) {
			y := changed(netN(), func(n *api.GateNet) { set(n, k) })
			if e := gate.Check(y); (e == api.OK) != isRight(y) || e != api.OK && e != api.ErrArg {
				t.Error(i, y, e)
			}
		}
	}
	for many := range 13 {
		x := net(points(make([]int, 3*many)...))
		if e := gate.Check(x); (e == api.OK) != (1 <= many && many <= 7) {
			t.Error(x, e)
		}
		for gates := range many + 1 {
			y := net(points(make([]int, 6)...), append(slices.Repeat(list(1, 0, 5, 0), many-gates), slices.Repeat(list(0, 1, 5, 1), gates)...)...)
			if e := gate.Check(y); (e == api.OK) != (many <= 10 && gates <= 7) {
				t.Error(y, e)
			}
		}
	}
}

// isRight reports whether a network of few channels is as the chapter defines it.
func isRight(n api.GateNet) bool {
	for _, x := range n.Points {
		if x.Spring.Low < 0 || x.Spring.Low > x.Spring.High || x.Spring.High > 10000 || x.Need < 0 || x.Need > 10000 {
			return false
		}
	}
	for _, x := range n.Channels {
		if min(x.From, x.To, x.Cups) < 0 || max(x.From, x.To) >= len(n.Points) || x.From == x.To || x.Cups > 10000 {
			return false
		}
	}
	return true
}

// P8.1 to P8.7: networks, positions and channels to empty that are not as defined, in all functions.
func TestWrongArguments(t *testing.T) {
	check := func(n api.GateNet, open, out []int) {
		for i, e := range errorsOf(n, open, out) {
			if e != api.ErrArg {
				t.Error(i, n, open, out, e)
			}
		}
	}
	for _, x := range wrongNets() {
		check(x, nil, nil)
		check(x, list(0), list(0))
		if e := gate.Check(x); e != api.ErrArg {
			t.Error(x, e)
		}
		if y, e := gate.Fewest(x); len(y) > 0 || e != api.ErrArg {
			t.Error(x, y, e)
		}
		if y, e := gate.Vital(x); len(y) > 0 || e != api.ErrArg {
			t.Error(x, y, e)
		}
	}
	for _, wrong := range wrongGates() {
		check(netN(), wrong, wrong)
		// The network m is not fed: what is wrong comes before what cannot be.
		check(netM(), wrong, wrong)
		for i, e := range errorsOf(netN(), wrong, list(0))[:6] {
			if e != api.ErrArg {
				t.Error(i, wrong, e)
			}
		}
		for i, e := range errorsOf(netN(), list(0, 3), wrong)[5:] {
			if e != api.ErrArg {
				t.Error(i, wrong, e)
			}
		}
	}
}

// errorsOf returns the errors of functions: those with positions, one with both, and those with channels to empty.
func errorsOf(n api.GateNet, open, out []int) []api.Errno {
	_, fed := gate.Fed(n, open)
	_, feeds := gate.Feeds(n, open, make([]int, len(n.Channels)))
	_, cut := gate.Cut(n, open)
	_, most := gate.Most(n, open, 0)
	_, _, plan := gate.Plan(n, open, list(0))
	_, moves := gate.Moves(n, open, out)
	_, proof := gate.Proof(n, out)
	_, together := gate.Together(n, out)
	_, rounds := gate.Rounds(n, out)
	return []api.Errno{fed, feeds, cut, most, plan, moves, proof, together, rounds}
}

// P8.1: the chapter's examples, and networks at the edge of being fed.
func TestFed(t *testing.T) {
	for i, x := range []struct {
		n    api.GateNet
		open []int
		want api.GateWord
	}{
		{netN(), list(0, 3), api.GateSurely}, {netM(), list(0, 3), api.GateMay}, {netN(), list(0, 4), api.GateNever}, {netN(), nil, api.GateNever}, {netN(), list(0, 1, 3, 4), api.GateSurely},
		{netM(), list(0, 1, 3, 4), api.GateMay}, {netN(), list(1, 3), api.GateSurely}, {wanting(netN(), 3, 55), list(1, 3), api.GateSurely}, {wanting(netN(), 3, 56), list(1, 3), api.GateNever},
		{wanting(netN(), 3, 60), list(0, 3), api.GateSurely}, {wanting(netN(), 3, 61), list(0, 1, 3), api.GateNever}, {wanting(netN(), 3, 61), list(0, 1, 3, 4), api.GateMay},
		{smallNet(), nil, api.GateNever}, {smallNet(), list(0), api.GateSurely}, {wanting(smallNet(), 1, 4), list(0), api.GateSurely}, {wanting(smallNet(), 1, 5), list(0), api.GateNever},
		{wanting(smallNet(), 0, 2), list(0), api.GateSurely}, {wanting(smallNet(), 0, 3), list(0), api.GateNever}, {fullNet(), nil, api.GateSurely}, {onePoint(), nil, api.GateSurely},
		{wanting(onePoint(), 0, 8), nil, api.GateMay}, {wanting(onePoint(), 0, 9), nil, api.GateMay}, {wanting(onePoint(), 0, 10), nil, api.GateNever}, {dryNet(), list(0), api.GateNever},
		{idleNet(), nil, api.GateSurely}, {ringNet(), list(0, 1, 2), api.GateMay}, {ringNet(), list(0, 1, 2, 4), api.GateSurely}, {wideNet(), list(0, 5), api.GateNever}, {wideNet(), list(0, 5, 6), api.GateSurely},
	} {
		if y, e := gate.Fed(x.n, x.open); y != x.want || e != api.OK {
			t.Error(i, y, e)
		}
	}
}

// P8.1: all positions of networks of all kinds; what is surely fed has flows that feed it, whatever the springs give.
func TestFedEach(t *testing.T) {
	r := rand.New(rand.NewPCG(8, 1))
	for _, x := range someNets(r, 300, 7) {
		for _, open := range partsOf(gatesIn(x)) {
			want := api.GateNever
			if isFed(x, open) {
				want = api.GateSurely
			} else if isFed(rainy(x), open) {
				want = api.GateMay
			}
			if y, e := gate.Fed(x, open); y != want || e != api.OK {
				t.Error(x, open, y, e)
			}
			y := changed(x, func(n *api.GateNet) {
				for i, p := range n.Points {
					cups := p.Spring.Low + r.IntN(p.Spring.High-p.Spring.Low+1)
					n.Points[i].Spring = api.Span{Low: cups, High: cups}
				}
			})
			flows, fed := flowsFor(y, open)
			if is, e := gate.Feeds(y, open, flows); is != fed || want == api.GateSurely && !fed || want == api.GateNever && fed || e != api.OK {
				t.Error(y, open, flows, is, e)
			}
		}
	}
}

// P8.1: the chapter's examples, and flows at the edges.
func TestFeeds(t *testing.T) {
	for i, x := range []struct {
		n           api.GateNet
		open, flows []int
		want        bool
	}{
		{netN(), list(0, 3), list(90, 0, 40, 50, 0), true}, {netN(), list(0, 3), list(90, 0, 40, 49, 0), false}, {netN(), list(0, 3), list(100, 0, 40, 60, 0), true}, {netN(), list(0, 3), list(101, 0, 40, 50, 0), false},
		{netN(), list(0, 3), list(89, 0, 40, 50, 0), false}, {netN(), list(0, 3), list(90, 0, 39, 50, 0), false}, {netN(), list(0, 3), list(90, 1, 40, 50, 0), false}, {netN(), list(0, 1, 3), list(90, 1, 40, 50, 0), true},
		{netN(), list(0, 1, 3), list(90, 11, 40, 50, 0), false}, {netN(), list(0, 1, 3), list(90, 10, 40, 60, 0), true}, {netN(), list(0, 1, 3), list(90, 10, 40, 61, 0), false}, {netN(), list(0, 3, 4), list(100, 0, 50, 40, 10), true},
		{netN(), list(0, 3), list(100, 0, 50, 40, 10), false}, {netN(), list(0, 3, 4), list(100, 0, 50, 40, 11), false}, {netM(), list(0, 3), list(90, 0, 40, 50, 0), false}, {netN(), list(0, 3), list(0, 0, 0, 0, 0), false},
		{netN(), list(0, 3), list(10000, 0, 40, 50, 0), false}, {smallNet(), list(0), list(3), true}, {smallNet(), list(0), list(2), false}, {smallNet(), list(0), list(5), false}, {smallNet(), nil, list(3), false},
		{fullNet(), nil, make([]int, 10), true}, {fullNet(), nil, slices.Repeat(list(1), 10), false}, {onePoint(), nil, nil, true}, {wanting(onePoint(), 0, 8), nil, nil, false},
		{idleNet(), list(0, 1), list(0, 0, 0), true}, {idleNet(), list(0, 1), list(0, 1, 0), false}, {ringNet(), list(0, 1, 4, 5), list(4, 2, 0, 0, 4, 1, 0), true}, {ringNet(), list(0, 1, 4, 5), list(4, 2, 0, 2, 4, 1, 0), false}, {ringNet(), list(0, 1, 4), list(4, 2, 0, 0, 4, 1, 0), false},
	} {
		if y, e := gate.Feeds(x.n, x.open, x.flows); y != x.want || e != api.OK {
			t.Error(i, y, e)
		}
	}
}

// P8.1: flows at random, and all flows that are a little more or less than some that feed.
func TestFeedsEach(t *testing.T) {
	r := rand.New(rand.NewPCG(8, 2))
	for _, x := range someNets(r, 300, 7) {
		open := somePart(r, gatesIn(x))
		some := make([]int, len(x.Channels))
		for k := range some {
			some[k] = r.IntN(carried(x, open, k) + 1)
		}
		right, _ := flowsFor(x, open)
		for _, flows := range lists(some, right) {
			for k := -1; k < len(flows); k++ {
				for _, more := range list(-1, 0, 1) {
					y := slices.Clone(flows)
					if k >= 0 {
						y[k] = min(10000, max(0, y[k]+more))
					}
					if is, e := gate.Feeds(x, open, y); is != isFeeding(x, open, y) || e != api.OK {
						t.Error(x, open, y, is, e)
					}
				}
			}
		}
	}
}

// P8.1: lists that are no flows.
func TestFeedsWrong(t *testing.T) {
	for _, flows := range lists(nil, list(0), list(0, 0, 0, 0), list(0, 0, 0, 0, 0, 0), list(10001, 0, 0, 0, 0), list(0, 0, 0, 0, 10001), list(-1, 0, 0, 0, 0), list(0, 0, 0, 0, -1), list(0, huge, 0, 0, 0), list(0, 0, 0, -huge-1, 0), make([]int, 100000)) {
		if y, e := gate.Feeds(netN(), list(0, 3), flows); y || e != api.ErrArg {
			t.Error(flows, y, e)
		}
	}
}

// P8.2: the chapter's examples, a spring that is too weak, and cuts of which the first is meant.
func TestCut(t *testing.T) {
	for i, x := range []struct {
		n    api.GateNet
		open []int
		want []int
		e    api.Errno
	}{
		{netN(), list(0, 4), list(3), api.OK}, {netM(), list(0, 3), list(0, 1, 2, 3), api.OK}, {netN(), list(0, 3), nil, api.ErrNone}, {netN(), list(3), list(1, 2), api.OK}, {netN(), nil, list(3), api.OK},
		{netM(), nil, list(3), api.OK}, {wanting(netN(), 1, 11), list(0, 3), list(1, 2, 3), api.OK}, {wanting(netN(), 0, 11), list(0, 3), list(0, 1, 2, 3), api.OK}, {wanting(netN(), 0, 101), list(0, 3), list(0), api.OK},
		{wanting(netN(), 2, 51), nil, list(2), api.OK}, {smallNet(), nil, list(1), api.OK}, {smallNet(), list(0), nil, api.ErrNone}, {wanting(smallNet(), 0, 3), list(0), list(0, 1), api.OK}, {fullNet(), nil, nil, api.ErrNone},
		{onePoint(), nil, nil, api.ErrNone}, {wanting(onePoint(), 0, 8), nil, list(0), api.OK}, {dryNet(), list(0), list(0, 1), api.OK}, {dryNet(), nil, list(0, 1), api.OK}, {wideNet(), list(2, 4), list(1), api.OK},
		{ringNet(), list(0, 1, 2), list(1, 2, 3), api.OK}, {ringNet(), list(0, 1, 2, 4), nil, api.ErrNone}, {net(points(0, 0, 0, 0, 5, 1, 0, 5, 1)), nil, list(1), api.OK}, {net(points(1, 1, 0, 0, 0, 1, 0, 0, 1), 0, 1, 1, 0, 0, 2, 1, 0), nil, list(0, 1, 2), api.OK},
		{net(points(0, 0, 2, 1, 1, 1, 0, 0, 2, 1, 1, 1), 1, 0, 1, 0, 1, 2, 3, 0, 3, 2, 3, 0, 3, 0, 1, 0), nil, list(0, 1), api.OK},
	} {
		if y, e := gate.Cut(x.n, x.open); !slices.Equal(y, x.want) || e != x.e {
			t.Error(i, y, e)
		}
	}
}

// P8.2: all positions of networks of all kinds: there is a cut just if no flows feed, and no fewer points are one.
func TestCutEach(t *testing.T) {
	for _, x := range someNets(rand.New(rand.NewPCG(8, 3)), 300, 7) {
		for _, open := range partsOf(gatesIn(x)) {
			want, some := cutFor(x, open)
			y, e := gate.Cut(x, open)
			if !slices.Equal(y, want) || (e == api.OK) != some || !some && e != api.ErrNone || some == isFed(x, open) {
				t.Error(x, open, y, e)
			}
		}
	}
}

// P8.3: the chapter's examples, and as much as can be.
func TestMost(t *testing.T) {
	for i, x := range []struct {
		n     api.GateNet
		open  []int
		point int
		want  int
		e     api.Errno
	}{
		{netN(), list(0, 3), 2, 50, api.OK}, {netN(), list(0, 3), 3, 60, api.OK}, {netM(), list(0, 3), 3, 0, api.ErrRule}, {netM(), list(0, 3), 0, 0, api.ErrRule}, {netN(), list(0, 4), 2, 0, api.ErrRule},
		{netN(), list(0, 3), 0, 10, api.OK}, {netN(), list(0, 3), 1, 10, api.OK}, {netN(), list(1, 3), 1, 5, api.OK}, {wanting(netM(), 3, 40), list(0, 3), 3, 40, api.OK}, {wanting(netM(), 3, 40), list(0, 3), 1, 0, api.OK},
		{smallNet(), list(0), 0, 2, api.OK}, {smallNet(), list(0), 1, 4, api.OK}, {smallNet(), nil, 1, 0, api.ErrRule}, {fullNet(), nil, 3, 10000, api.OK}, {wanting(fullNet(), 0, 0), list(1), 1, 10000, api.OK},
		{onePoint(), nil, 0, 7, api.OK}, {wanting(onePoint(), 0, 0), nil, 0, 7, api.OK}, {wanting(onePoint(), 0, 8), nil, 0, 0, api.ErrRule}, {net(points(10000, 10000, 0, 10000, 10000, 9), 0, 1, 10000, 0), nil, 1, 10000, api.OK},
		{net(points(10000, 10000, 0, 9999, 10000, 9), 0, 1, 1, 0), nil, 1, 10000, api.OK}, {net(points(10000, 10000, 0, 9998, 10000, 9), 0, 1, 1, 0), nil, 1, 9999, api.OK}, {idleNet(), nil, 1, 0, api.OK},
		{netN(), list(0, 3), 4, 0, api.ErrArg}, {netN(), list(0, 3), -1, 0, api.ErrArg}, {netM(), list(0, 3), 4, 0, api.ErrArg}, {netN(), list(0, 3), huge, 0, api.ErrArg}, {netN(), list(0, 3), -huge - 1, 0, api.ErrArg},
	} {
		if y, e := gate.Most(x.n, x.open, x.point); y != x.want || e != x.e {
			t.Error(i, y, e)
		}
	}
}

// P8.3: all points of networks of all kinds: with this need a network is surely fed, and with a greater one it is not.
func TestMostEach(t *testing.T) {
	r := rand.New(rand.NewPCG(8, 4))
	for _, x := range someNets(r, 1000, 7) {
		open := without(gatesIn(x), list(r.IntN(10), r.IntN(10)))
		for i := range x.Points {
			y, e := gate.Most(x, open, i)
			switch {
			case !isFed(x, open):
				if y != 0 || e != api.ErrRule {
					t.Error(x, open, i, y, e)
				}
			case e != api.OK || y < x.Points[i].Need || y > 10000 || !isFed(wanting(x, i, y), open) || y < 10000 && isFed(wanting(x, i, y+1), open):
				t.Error(x, open, i, y, e)
			}
		}
	}
}

// P8.4: the chapter's example, networks that need no gate, and those that are never fed.
func TestFewest(t *testing.T) {
	for i, x := range []struct {
		n    api.GateNet
		want []int
		e    api.Errno
	}{
		{netN(), list(0, 3), api.OK}, {netM(), nil, api.ErrNone}, {smallNet(), list(0), api.OK}, {fullNet(), nil, api.OK}, {onePoint(), nil, api.OK}, {wanting(onePoint(), 0, 8), nil, api.ErrNone}, {dryNet(), nil, api.ErrNone},
		{idleNet(), nil, api.OK}, {wideNet(), list(0, 1, 2), api.OK}, {wanting(netN(), 1, 6), list(0, 3), api.OK}, {ringNet(), list(0, 1, 4), api.OK}, {wanting(netN(), 3, 10), list(0, 3), api.OK},
		{changed(wanting(netN(), 3, 10), func(n *api.GateNet) { n.Channels[3].Cups = 9 }), list(0, 4), api.OK},
		{changed(netN(), func(n *api.GateNet) { n.Channels[0].Cups = 89 }), list(1, 3), api.OK}, {changed(netN(), func(n *api.GateNet) { n.Channels[0].Cups, n.Channels[1].Cups = 89, 89 }), list(0, 1, 3), api.OK},
	} {
		if y, e := gate.Fewest(x.n); !slices.Equal(y, x.want) || e != x.e {
			t.Error(i, y, e)
		}
	}
}

// P8.4: networks of all kinds; no shorter list, and none before it, is enough.
func TestFewestEach(t *testing.T) {
	for _, x := range someNets(rand.New(rand.NewPCG(8, 5)), 500, 7) {
		want, some := firstOf(partsOf(gatesIn(x)), func(open []int) bool { return isFed(x, open) })
		if y, e := gate.Fewest(x); !slices.Equal(y, want) || (e == api.OK) != some || !some && e != api.ErrNone {
			t.Error(x, y, e)
		}
	}
}

// firstOf returns the first of some lists that is right, and whether there is one.
func firstOf(lists [][]int, right func([]int) bool) ([]int, bool) {
	i := slices.IndexFunc(lists, right)
	if i < 0 {
		return nil, false
	}
	return lists[i], true
}
