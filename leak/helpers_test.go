package leak_test

import (
	"cmp"
	"math/rand/v2"
	"slices"

	"quinaria/api"
)

const huge = int(^uint(0) >> 1)

func span(low, high int) api.Span { return api.Span{Low: low, High: high} }

func list(n ...int) []int { return n }

func lists(x ...[]int) [][]int { return x }

// counts returns counts with a point, a Low and a High, one after the other.
func counts(n ...int) []api.LeakCount {
	var out []api.LeakCount
	for i := 0; i < len(n); i += 3 {
		out = append(out, api.LeakCount{Point: n[i], Low: n[i+1], High: n[i+2]})
	}
	return out
}

// line returns a line whose counts have a point, a Low and a High, one after the other.
func line(gives []int, least, most, taps int, n ...int) api.LeakLine {
	return api.LeakLine{Gives: gives, Least: least, Most: most, Taps: taps, Counts: counts(n...)}
}

func truth(inflow int, losses ...int) api.LeakTruth {
	return api.LeakTruth{Inflow: inflow, Losses: losses}
}

// with returns a line with further counts.
func with(l api.LeakLine, n ...int) api.LeakLine {
	l.Counts = append(slices.Clone(l.Counts), counts(n...)...)
	return l
}

// tapping returns a line of which so many stretches are tapped at most.
func tapping(l api.LeakLine, taps int) api.LeakLine {
	l.Taps = taps
	return l
}

// lineM is the chapter's line m.
func lineM() api.LeakLine { return line(list(10, 0, 20), 5, 15, 1, 0, 100, 104, 3, 58, 62) }

// lineN is the chapter's line n.
func lineN() api.LeakLine { return with(lineM(), 1, 97, 100) }

// smallLine is the line whose book the chapter shows.
func smallLine() api.LeakLine { return line(list(0), 1, 1, 0) }

// fullLine is a line with as much of everything as there can be.
func fullLine() api.LeakLine {
	return line(list(60, 60, 60, 60, 60), 60, 60, 2, 0, 400, 400, 5, 0, 100, 5, 0, 400, 1, 0, 340, 2, 160, 280, 3, 100, 220, 4, 0, 160, 0, 0, 400)
}

// wideLine is a line of which nothing is known.
func wideLine() api.LeakLine { return line(list(0, 0, 0, 0, 0), 1, 60, 2) }

// tripleLine is a line that is not possible, as three stretches are tapped, but any two of its counts can be true.
func tripleLine() api.LeakLine {
	return line(list(0, 0, 0), 10, 20, 2, 0, 100, 100, 1, 90, 90, 2, 80, 80, 3, 70, 70)
}

// ourLines are lines of all kinds.
func ourLines() []api.LeakLine {
	return []api.LeakLine{lineM(), lineN(), smallLine(), fullLine(), wideLine(), tripleLine(), line(list(60), 1, 60, 2, 1, 400, 400)}
}

// wrongLines are lines each of which is not as defined in one way.
func wrongLines() []api.LeakLine {
	g := list(10, 0, 20)
	wrong := []api.LeakLine{
		{}, line(nil, 5, 15, 1), line(list(), 5, 15, 1), line(make([]int, 6), 5, 15, 1), line(g, 0, 15, 1), line(g, 16, 15, 1), line(g, 5, 61, 1), line(g, 61, 61, 1),
		line(g, 0, 0, 1), line(g, 5, 15, 3), line(list(10, 61, 0), 5, 15, 1), line(list(61), 5, 15, 1), line(list(10, 0, 61), 5, 15, 1),
		line(g, 5, 15, 1, 4, 5, 6), line(g, 5, 15, 1, 0, 6, 5), line(g, 5, 15, 1, 0, 5, 401), line(g, 5, 15, 1, 0, 401, 401),
		line(g, 5, 15, 1, 0, 5, 6, 4, 5, 6), line(g, 5, 15, 1, 0, 5, 6, 3, 5, 6, 0, 0, 401), line(g, 5, 15, 1, slices.Repeat(list(0, 5, 6), 9)...),
	}
	for _, n := range list(-1, huge, -huge-1) {
		wrong = append(wrong, line(list(n, 0, 0), 5, 15, 1), line(list(0, 0, n), 5, 15, 1), line(g, n, 15, 1), line(g, 5, n, 1), line(g, 5, 15, n),
			line(g, 5, 15, 1, n, 5, 6), line(g, 5, 15, 1, 0, n, 6), line(g, 5, 15, 1, 0, 5, n), line(g, 5, 15, 1, 0, 5, 6, 0, n, n))
	}
	return wrong
}

// impossibleLines are lines that are as defined, but not possible.
func impossibleLines() []api.LeakLine {
	return []api.LeakLine{
		lineN(), tripleLine(), line(list(60), 1, 60, 2, 1, 341, 400), line(list(60), 1, 60, 2, 0, 0, 59), line(list(0), 1, 1, 0, 0, 5, 5, 0, 6, 6),
		line(list(0), 1, 1, 0, 0, 5, 5, 1, 4, 4), line(list(0), 3, 5, 1, 0, 50, 50, 1, 48, 49), line(list(0, 0), 3, 5, 1, 0, 50, 50, 2, 40, 44), tapping(lineM(), 0),
	}
}

// wrongOffs are numbers of cups that no count can be off by.
func wrongOffs() []int { return list(-1, 21, huge, -huge-1) }

// tappedIn returns the stretches with a loss.
func tappedIn(losses []int) (set []int) {
	for i, lost := range losses {
		if lost > 0 {
			set = append(set, i)
		}
	}
	return set
}

// flowsOf returns what flows at each point, as the chapter defines it.
func flowsOf(l api.LeakLine, inflow int, losses []int) []int {
	flows := list(inflow)
	for i, lost := range losses {
		flows = append(flows, flows[i]-l.Gives[i]-lost)
	}
	return flows
}

// holds reports whether a count is true of some flows.
func holds(x api.LeakCount, flows []int) bool {
	return x.Low <= flows[x.Point] && flows[x.Point] <= x.High
}

// allLosses returns all lists of losses of a line with at most Taps stretches tapped.
func allLosses(l api.LeakLine) [][]int {
	all := lists(nil)
	for range l.Gives {
		var longer [][]int
		for _, losses := range all {
			longer = append(longer, append(slices.Clone(losses), 0))
			for lost := l.Least; lost <= l.Most && len(tappedIn(losses)) < l.Taps; lost++ {
				longer = append(longer, append(slices.Clone(losses), lost))
			}
		}
		all = longer
	}
	return all
}

// eachTruth calls a function with all truths of a line at whose points no less than 0 cups flow, whatever was counted.
func eachTruth(l api.LeakLine, do func(losses, flows []int)) {
	for _, losses := range allLosses(l) {
		for inflow := range 401 {
			if flows := flowsOf(l, inflow, losses); slices.Min(flows) >= 0 {
				do(losses, flows)
			}
		}
	}
}

// fitting is the losses and the flows of a truth that fits a line.
type fitting struct{ losses, flows []int }

// truthsOf returns all truths that fit a line.
func truthsOf(l api.LeakLine) (truths []fitting) {
	eachTruth(l, func(losses, flows []int) {
		if !slices.ContainsFunc(l.Counts, func(x api.LeakCount) bool { return !holds(x, flows) }) {
			truths = append(truths, fitting{losses, flows})
		}
	})
	return truths
}

// isBefore compares sets by how many stretches they have, and then in lexicographic order.
func isBefore(a, b []int) int { return cmp.Or(cmp.Compare(len(a), len(b)), slices.Compare(a, b)) }

// setsOf returns all sets of truths, in order.
func setsOf(truths []fitting) (sets [][]int) {
	for _, x := range truths {
		sets = append(sets, tappedIn(x.losses))
	}
	slices.SortFunc(sets, isBefore)
	return slices.CompactFunc(sets, slices.Equal)
}

// suspectsOf returns all stretches that are in some set.
func suspectsOf(sets [][]int) []int {
	all := slices.Concat(sets...)
	slices.Sort(all)
	return slices.Compact(all)
}

// sublists returns all lists of some of the first n numbers, in the order of isBefore.
func sublists(n int) (all [][]int) {
	for mask := range 1 << n {
		var x []int
		for i := range n {
			if mask>>i&1 == 1 {
				x = append(x, i)
			}
		}
		all = append(all, x)
	}
	slices.SortFunc(all, isBefore)
	return all
}

// wider returns the least span that has another one, and a number.
func wider(x api.Span, n int) api.Span { return span(min(x.Low, n), max(x.High, n)) }

// empty is a span without numbers.
func empty() api.Span { return span(huge, -huge) }

// someLine returns a line with up to so many stretches and counts. Most of the
// counts are true of one truth, so that the line is often possible.
func someLine(r *rand.Rand, stretches, most int) api.LeakLine {
	l := line(nil, 1+r.IntN(20), 0, r.IntN(3))
	l.Most = l.Least + r.IntN(5)
	losses := make([]int, 1+r.IntN(stretches))
	for range losses {
		l.Gives = append(l.Gives, []int{0, r.IntN(10), r.IntN(61)}[r.IntN(3)])
	}
	for range l.Taps {
		losses[r.IntN(len(losses))] = l.Least + r.IntN(l.Most-l.Least+1)
	}
	inflow := []int{400 - r.IntN(3), r.IntN(401), 60 + r.IntN(60)}[r.IntN(3)]
	flows := flowsOf(l, inflow, losses)
	for range r.IntN(most + 1) {
		l.Counts = append(l.Counts, someCount(r, flows))
	}
	return l
}

// someCount returns a count that is mostly true of some flows.
func someCount(r *rand.Rand, flows []int) api.LeakCount {
	point := r.IntN(len(flows))
	wrong := 0
	if r.IntN(4) == 0 {
		wrong = r.IntN(41) - 20
	}
	low := flows[point] + wrong - r.IntN(8)
	return api.LeakCount{Point: point, Low: min(400, max(0, low)), High: min(400, max(0, low+8+r.IntN(4)))}
}

// narrowLine returns a line as someLine, but with one count that nearly tells how much flows, so that few truths fit.
func narrowLine(r *rand.Rand, stretches int) api.LeakLine {
	for {
		l := someLine(r, stretches, 3)
		l.Most = min(l.Most, l.Least+2)
		l.Taps = max(l.Taps, r.IntN(3))
		low := 60 + r.IntN(341)
		l = with(l, r.IntN(len(l.Gives)+1), low, min(400, low+r.IntN(3)))
		if len(truthsOf(l)) > 0 {
			return l
		}
	}
}

// sameLine reports whether two lines are the same value.
func sameLine(a, b api.LeakLine) bool {
	return slices.Equal(a.Gives, b.Gives) && a.Least == b.Least && a.Most == b.Most && a.Taps == b.Taps && slices.Equal(a.Counts, b.Counts)
}

// isNone reports whether a line is the zero value.
func isNone(l api.LeakLine) bool { return sameLine(l, api.LeakLine{}) }
