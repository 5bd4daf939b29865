package leak_test

import (
	"math/rand/v2"
	"slices"
	"testing"

	"quinaria/api"
	"quinaria/leak"
)

// P5.1: lines that are as defined, at their limits too, and each way in which one is not.
func TestCheck(t *testing.T) {
	g := list(10, 0, 20)
	right := append(ourLines(), impossibleLines()...)
	right = append(right, line(g, 1, 60, 0), line(g, 60, 60, 2), line(g, 1, 1, 2), line(list(0), 1, 1, 2), line(list(60), 1, 60, 1, 1, 0, 0, 1, 400, 400, 0, 0, 400), line(g, 5, 15, 1, slices.Repeat(list(3, 5, 6), 8)...))
	for i, l := range right {
		if e := leak.Check(l); e != api.OK {
			t.Error(i, l, e)
		}
	}
	for i, l := range wrongLines() {
		if e := leak.Check(l); e != api.ErrArg {
			t.Error(i, l, e)
		}
	}
}

// P5.1: truths of the chapter's line m, each bound of what makes one fit, and what is no truth.
func TestFits(t *testing.T) {
	m := lineM()
	free := line(list(10, 0, 20), 5, 15, 2)
	for i, x := range []struct {
		l    api.LeakLine
		x    api.LeakTruth
		want bool
		e    api.Errno
	}{
		{m, truth(100, 8, 0, 0), true, api.OK},
		{m, truth(100, 0, 8, 0), true, api.OK},
		{m, truth(104, 0, 0, 15), true, api.OK},
		{m, truth(100, 7, 0, 0), false, api.OK},
		{m, truth(100, 12, 0, 0), true, api.OK},
		{m, truth(100, 13, 0, 0), false, api.OK},
		{m, truth(99, 8, 0, 0), false, api.OK},
		{m, truth(104, 12, 0, 0), true, api.OK},
		{m, truth(105, 13, 0, 0), false, api.OK},
		{m, truth(100, 0, 0, 0), false, api.OK},
		{m, truth(104, 5, 7, 0), false, api.OK},
		{tapping(m, 2), truth(104, 5, 7, 0), true, api.OK},
		{tapping(m, 2), truth(104, 5, 5, 5), false, api.OK},
		{tapping(m, 0), truth(104, 12, 0, 0), false, api.OK},
		{lineN(), truth(104, 0, 12, 0), false, api.OK},
		{lineN(), truth(110, 0, 15, 5), false, api.OK},
		{free, truth(30, 0, 0, 0), true, api.OK},
		{free, truth(29, 0, 0, 0), false, api.OK},
		{free, truth(35, 0, 0, 5), true, api.OK},
		{free, truth(34, 0, 0, 5), false, api.OK},
		{free, truth(0, 0, 0, 0), false, api.OK},
		{free, truth(400, 15, 0, 15), true, api.OK},
		{line(list(0, 0), 1, 1, 0), truth(0, 0, 0), true, api.OK},
		{line(list(20, 0), 1, 1, 0, 2, 0, 0), truth(20, 0, 0), true, api.OK},
		{line(list(20, 0), 1, 1, 0, 2, 0, 0), truth(21, 0, 0), false, api.OK},
		{m, truth(401, 8, 0, 0), false, api.ErrArg},
		{m, truth(-1, 8, 0, 0), false, api.ErrArg},
		{m, truth(huge, 8, 0, 0), false, api.ErrArg},
		{m, truth(100, 8, 0), false, api.ErrArg},
		{m, truth(100, 8, 0, 0, 0), false, api.ErrArg},
		{m, truth(100), false, api.ErrArg},
		{m, truth(100, 4, 0, 0), false, api.ErrArg},
		{m, truth(100, 0, 0, 16), false, api.ErrArg},
		{m, truth(100, 8, -1, 0), false, api.ErrArg},
		{m, truth(100, 8, 0, huge), false, api.ErrArg},
		{m, truth(100, 8, -huge-1, 0), false, api.ErrArg},
		{m, truth(99, 1, 0, 0), false, api.ErrArg},
	} {
		if y, e := leak.Fits(x.l, x.x); y != x.want || e != x.e {
			t.Error(i, y, e)
		}
	}
	for i, l := range wrongLines() {
		if y, e := leak.Fits(l, truth(100, 8, 0, 0)); y || e != api.ErrArg {
			t.Error(i, y, e)
		}
	}
}

// P5.1: of all truths of lines, just those fit that do so by the definition.
func TestAllFits(t *testing.T) {
	r := rand.New(rand.NewPCG(5, 1))
	found := map[bool]int{}
	for range 60 {
		l := someLine(r, 3, 4)
		every := tapping(l, 3)
		for _, losses := range allLosses(every) {
			for range 40 {
				inflow := r.IntN(401)
				flows := flowsOf(l, inflow, losses)
				want := len(tappedIn(losses)) <= l.Taps && slices.Min(flows) >= 0
				for _, x := range l.Counts {
					want = want && holds(x, flows)
				}
				found[want]++
				if y, e := leak.Fits(l, api.LeakTruth{Inflow: inflow, Losses: losses}); y != want || e != api.OK {
					t.Error(l, inflow, losses, y, e, want)
				}
			}
		}
	}
	if found[true] < 1000 || found[false] < 1000 {
		t.Error("too few of a kind", found)
	}
}

// P5.1: the chapter's examples, lines without counts, and counts that are not possible, alone or together.
func TestPossible(t *testing.T) {
	for i, x := range []struct {
		l    api.LeakLine
		want bool
	}{
		{lineM(), true}, {smallLine(), true}, {fullLine(), true}, {wideLine(), true}, {line(list(60, 60, 60, 60, 60), 60, 60, 2), true},
		{line(list(60), 1, 60, 2, 1, 340, 340), true}, {line(list(60), 1, 60, 2, 0, 60, 60), true},
		{line(list(0), 3, 5, 1, 0, 50, 50, 1, 47, 49), true}, {line(list(0), 3, 5, 1, 0, 50, 50, 1, 45, 45), true}, {line(list(0), 3, 5, 1, 0, 50, 50, 1, 40, 44), false},
		{line(list(0), 3, 5, 0, 0, 50, 50, 1, 45, 45), false}, {line(list(0), 3, 5, 0, 0, 50, 50, 1, 50, 50), true}, {line(list(0), 3, 5, 0, 0, 50, 50, 1, 51, 51), false},
		{line(list(0, 0), 3, 5, 1, 0, 50, 50, 2, 40, 40), false}, {line(list(0, 0), 3, 5, 2, 0, 50, 50, 2, 40, 40), true},
		{line(list(1, 0), 1, 1, 0, 0, 0, 0), false},
	} {
		if y, e := leak.Possible(x.l); y != x.want || e != api.OK {
			t.Error(i, y, e)
		}
	}
	for i, l := range impossibleLines() {
		if y, e := leak.Possible(l); y || e != api.OK {
			t.Error(i, y, e)
		}
	}
	for i, l := range wrongLines() {
		if y, e := leak.Possible(l); y || e != api.ErrArg {
			t.Error(i, y, e)
		}
	}
}

// P5.2: the chapter's examples, lines without counts, and errors in their order.
func TestFlows(t *testing.T) {
	m := lineM()
	free := line(list(10, 0, 20), 5, 15, 2)
	for i, x := range []struct {
		l     api.LeakLine
		point int
		want  api.Span
	}{
		{m, 0, span(100, 104)}, {m, 1, span(78, 94)}, {m, 2, span(78, 94)}, {m, 3, span(58, 62)},
		{free, 0, span(30, 400)}, {free, 1, span(20, 390)}, {free, 2, span(20, 390)}, {free, 3, span(0, 370)},
		{smallLine(), 0, span(0, 400)}, {smallLine(), 1, span(0, 400)},
		{fullLine(), 0, span(400, 400)}, {fullLine(), 5, span(40, 100)}, {wideLine(), 5, span(0, 400)},
		{line(list(0), 10, 20, 1, 0, 50, 60), 1, span(30, 60)}, {line(list(0), 10, 20, 1, 1, 50, 60), 0, span(50, 80)},
		{line(list(0), 10, 20, 1, 1, 390, 400), 0, span(390, 400)}, {line(list(0), 10, 20, 1, 0, 0, 5), 1, span(0, 5)},
	} {
		if y, e := leak.Flows(x.l, x.point); y != x.want || e != api.OK {
			t.Error(i, y, e)
		}
	}
	wrong := func(l api.LeakLine, point int, want api.Errno) {
		if y, e := leak.Flows(l, point); y != span(0, 0) || e != want {
			t.Error(l, point, y, e)
		}
	}
	for _, l := range wrongLines() {
		wrong(l, 0, api.ErrArg)
	}
	for _, l := range impossibleLines() {
		wrong(l, 0, api.ErrRule)
		wrong(l, len(l.Gives), api.ErrRule)
		wrong(l, len(l.Gives)+1, api.ErrArg)
	}
	for _, point := range list(-1, 4, huge, -huge-1) {
		wrong(m, point, api.ErrArg)
		wrong(lineN(), point, api.ErrArg)
	}
}

// P5.2: the chapter's examples, one point only, the greatest losses, and errors in their order.
func TestLost(t *testing.T) {
	m := lineM()
	free := line(list(10, 0, 20), 5, 15, 2)
	for i, x := range []struct {
		l        api.LeakLine
		from, to int
		want     api.Span
	}{
		{m, 0, 3, span(8, 15)}, {m, 1, 2, span(0, 15)}, {m, 0, 1, span(0, 15)}, {m, 0, 0, span(0, 0)}, {m, 3, 3, span(0, 0)}, {m, 1, 3, span(0, 15)},
		{free, 0, 3, span(0, 30)}, {free, 1, 2, span(0, 15)}, {free, 1, 3, span(0, 30)}, {tapping(free, 1), 0, 3, span(0, 15)}, {tapping(free, 0), 0, 3, span(0, 0)},
		{fullLine(), 0, 5, span(0, 60)}, {wideLine(), 0, 5, span(0, 120)}, {wideLine(), 4, 5, span(0, 60)},
		{line(list(0, 0, 0), 10, 20, 2, 0, 100, 100, 1, 90, 90, 2, 80, 80), 2, 3, span(0, 0)},
		{line(list(0, 0, 0), 10, 20, 2, 0, 100, 100, 1, 90, 90, 2, 80, 80), 0, 2, span(20, 20)},
		{line(list(60, 60, 60, 60, 60), 60, 60, 2, 5, 30, 400), 0, 5, span(0, 60)},
		{line(list(60, 60, 60, 60, 60), 60, 60, 2, 5, 41, 400), 0, 5, span(0, 0)},
	} {
		if y, e := leak.Lost(x.l, x.from, x.to); y != x.want || e != api.OK {
			t.Error(i, y, e)
		}
	}
	wrong := func(l api.LeakLine, from, to int, want api.Errno) {
		if y, e := leak.Lost(l, from, to); y != span(0, 0) || e != want {
			t.Error(l, from, to, y, e)
		}
	}
	for _, l := range wrongLines() {
		wrong(l, 0, 0, api.ErrArg)
	}
	for _, l := range impossibleLines() {
		wrong(l, 0, 0, api.ErrRule)
		wrong(l, 0, 1, api.ErrRule)
		wrong(l, 1, 0, api.ErrArg)
	}
	for _, l := range []api.LeakLine{m, lineN()} {
		wrong(l, 2, 1, api.ErrArg)
		for _, point := range list(-1, 4, huge, -huge-1) {
			wrong(l, point, 3, api.ErrArg)
			wrong(l, 0, point, api.ErrArg)
			wrong(l, point, point, api.ErrArg)
		}
	}
}

// P5.1, P5.2: all that is true lies within the bounds, and each end is reached.
func TestAllFlowsAndLost(t *testing.T) {
	r := rand.New(rand.NewPCG(5, 2))
	found := map[bool]int{}
	for range 300 {
		l := someLine(r, 5, 5)
		truths := truthsOf(l)
		possible := len(truths) > 0
		found[possible]++
		if y, e := leak.Possible(l); y != possible || e != api.OK {
			t.Error(l, y, e)
		}
		if !possible {
			continue
		}
		for from := range len(l.Gives) + 1 {
			flow := empty()
			lost := slices.Repeat([]api.Span{empty()}, len(l.Gives)+1)
			for _, x := range truths {
				flow = wider(flow, x.flows[from])
				sum := 0
				for to := from; to <= len(l.Gives); to++ {
					lost[to] = wider(lost[to], sum)
					if to < len(l.Gives) {
						sum += x.losses[to]
					}
				}
			}
			if y, e := leak.Flows(l, from); y != flow || e != api.OK {
				t.Error(l, from, y, e, flow)
			}
			for to := from; to <= len(l.Gives); to++ {
				if y, e := leak.Lost(l, from, to); y != lost[to] || e != api.OK {
					t.Error(l, from, to, y, e, lost[to])
				}
			}
		}
	}
	if found[true] < 50 || found[false] < 50 {
		t.Error("too few of a kind", found)
	}
}
