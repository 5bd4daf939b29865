package leak_test

import (
	"math/rand/v2"
	"slices"
	"testing"

	"quinaria/api"
	"quinaria/leak"
)

// P5.4: the chapter's examples, lines on which nothing is suspect, and errors in their order.
func TestNext(t *testing.T) {
	m := lineM()
	for i, x := range []struct {
		l               api.LeakLine
		off             int
		point, suspects int
	}{
		{m, 2, 1, 2}, {m, 3, 1, 2}, {m, 4, 0, 3}, {m, 0, 1, 2}, {m, 20, 0, 3},
		{with(m, 1, 90, 94), 2, 2, 1}, {with(m, 1, 90, 94), 4, 0, 2}, {with(m, 2, 78, 82), 3, 1, 1}, {with(m, 2, 90, 94), 0, 0, 1}, {with(m, 2, 90, 94), 20, 0, 1},
		{smallLine(), 0, 0, 0}, {smallLine(), 20, 0, 0}, {tapping(wideLine(), 0), 20, 0, 0}, {wideLine(), 0, 0, 5}, {fullLine(), 0, 2, 3}, {fullLine(), 20, 2, 3},
		{line(list(0), 1, 1, 1, 0, 50, 50), 0, 0, 1}, {line(list(0), 1, 1, 1, 0, 50, 50, 1, 50, 50), 0, 0, 0},
		{line(list(0, 0), 9, 9, 1, 0, 50, 50, 2, 41, 41), 4, 1, 1}, {line(list(0, 0), 9, 9, 1, 0, 50, 50, 2, 41, 41), 5, 0, 2},
		{line(list(0, 0), 8, 8, 1, 0, 50, 50, 2, 42, 42), 3, 1, 1}, {line(list(0, 0), 8, 8, 1, 0, 50, 50, 2, 42, 42), 4, 0, 2},
	} {
		if y, n, e := leak.Next(x.l, x.off); y != x.point || n != x.suspects || e != api.OK {
			t.Error(i, y, n, e)
		}
	}
	wrong := func(l api.LeakLine, off int, want api.Errno) {
		if y, n, e := leak.Next(l, off); y != 0 || n != 0 || e != want {
			t.Error(l, off, y, n, e)
		}
	}
	for _, l := range wrongLines() {
		wrong(l, 0, api.ErrArg)
	}
	for _, l := range impossibleLines() {
		wrong(l, 0, api.ErrRule)
		wrong(l, 20, api.ErrRule)
	}
	for _, off := range wrongOffs() {
		wrong(m, off, api.ErrArg)
		wrong(lineN(), off, api.ErrArg)
	}
}

// mostSuspects returns how many stretches are suspect still at most, whatever is read at a point.
func mostSuspects(truths []fitting, point, off int) (most int) {
	sets := make([][][]int, 401)
	for _, x := range truths {
		for read := max(0, x.flows[point]-off); read <= min(400, x.flows[point]+off); read++ {
			sets[read] = append(sets[read], tappedIn(x.losses))
		}
	}
	for _, x := range sets {
		most = max(most, len(suspectsOf(x)))
	}
	return most
}

// P5.4: at no other point are fewer stretches suspect, whatever is read, and at none before it as few.
func TestAllNext(t *testing.T) {
	r := rand.New(rand.NewPCG(5, 4))
	found := map[int]int{}
	for range 400 {
		l := narrowLine(r, 5)
		off := []int{0, r.IntN(4), r.IntN(21)}[r.IntN(3)]
		truths := truthsOf(l)
		point, suspects := 0, 99
		for p := range len(l.Gives) + 1 {
			if n := mostSuspects(truths, p, off); n < suspects {
				point, suspects = p, n
			}
		}
		found[point]++
		if y, n, e := leak.Next(l, off); y != point || n != suspects || e != api.OK {
			t.Error(l, off, y, n, e, point, suspects)
		}
	}
	if found[0] < 50 || found[1]+found[2]+found[3]+found[4]+found[5] < 50 {
		t.Error("too few of a kind", found)
	}
}

// P5.4: whatever is read at the point, a line with this count has no more suspects, and with some it has as many.
func TestNextAsCounts(t *testing.T) {
	r := rand.New(rand.NewPCG(5, 5))
	for range 60 {
		l := narrowLine(r, 4)
		off := r.IntN(21)
		point, suspects, _ := leak.Next(l, off)
		most := 0
		for read := range 401 {
			known, e := leak.Known(with(l, point, max(0, read-off), min(400, read+off)))
			if e != api.OK {
				continue
			}
			n := 0
			for _, word := range known {
				if word != never {
					n++
				}
			}
			most = max(most, n)
		}
		if most != suspects {
			t.Error(l, off, point, suspects, most)
		}
	}
}

// eitherEnd is a line whose thieves each of its points tells: from 100 to 110
// cups flow at both, or from 130 to 140 at the first one and 60 less at the other.
func eitherEnd() api.LeakLine { return line(list(0), 60, 60, 1, 0, 100, 140, 1, 70, 110) }

// dryEnd is a line whose second stretch has too little water to be tapped.
func dryEnd() api.LeakLine { return line(list(0, 0), 40, 40, 1, 1, 0, 30) }

// P5.5: the chapter's examples, no points, all points, what both counts can be off just, and errors in their order.
func TestTells(t *testing.T) {
	m := lineM()
	for i, x := range []struct {
		l      api.LeakLine
		points []int
		off    int
		want   bool
	}{
		{m, list(1, 2), 2, true}, {m, list(1), 2, false}, {m, list(2), 2, false}, {m, list(1, 2), 3, true}, {m, list(1, 2), 4, false}, {m, nil, 0, false}, {m, list(0, 3), 0, false},
		{m, list(0, 1, 2, 3), 3, true}, {m, list(0, 1, 2, 3), 4, false}, {m, list(0, 1, 2), 4, false}, {m, list(1, 2, 3), 2, true}, {m, list(0, 2), 0, false},
		{with(m, 1, 90, 94), list(2), 3, true}, {with(m, 1, 90, 94), list(2), 4, false}, {with(m, 1, 90, 94), list(1), 0, false},
		{with(m, 2, 90, 94), nil, 20, true}, {with(m, 2, 90, 94), list(), 20, true}, {with(m, 2, 90, 94), list(0, 1, 2, 3), 20, true},
		{smallLine(), nil, 20, true}, {line(list(0), 1, 1, 1), list(0, 1), 0, true}, {line(list(0), 1, 1, 1), list(1), 0, false}, {line(list(0), 1, 1, 1), list(0), 0, false},
		{line(list(0), 1, 1, 1), list(0, 1), 1, false}, {line(list(0), 40, 40, 1), list(0, 1), 9, true}, {line(list(0), 40, 40, 1), list(0, 1), 10, false},
		{line(list(0), 60, 60, 1), list(0, 1), 14, true}, {line(list(0), 60, 60, 1), list(0, 1), 15, false},
		// A truth has a flow in common with another one at each point, but not the same truth at all points.
		{line(list(0), 4, 4, 1, 0, 50, 60), list(0, 1), 0, true}, {line(list(0), 4, 4, 1, 0, 50, 60), list(1), 0, false}, {line(list(0), 4, 4, 1, 0, 50, 60), list(0), 0, false},
		{line(list(0, 0), 9, 9, 1, 0, 50, 50, 2, 41, 41), list(1), 4, true}, {line(list(0, 0), 9, 9, 1, 0, 50, 50, 2, 41, 41), list(1), 5, false},
		{line(list(0, 0), 8, 8, 1, 0, 50, 50, 2, 42, 42), list(1), 3, true}, {line(list(0, 0), 8, 8, 1, 0, 50, 50, 2, 42, 42), list(1), 4, false},
		{eitherEnd(), list(0), 9, true}, {eitherEnd(), list(1), 9, true}, {eitherEnd(), list(0), 10, false}, {eitherEnd(), list(1), 10, false},
		{dryEnd(), list(0, 1), 5, true}, {dryEnd(), list(0, 2), 5, true}, {dryEnd(), list(1, 2), 5, false}, {dryEnd(), list(0), 5, false},
	} {
		if y, e := leak.Tells(x.l, x.points, x.off); y != x.want || e != api.OK {
			t.Error(i, y, e)
		}
	}
	wrong := func(l api.LeakLine, points []int, off int, want api.Errno) {
		if y, e := leak.Tells(l, points, off); y || e != want {
			t.Error(l, points, off, y, e)
		}
	}
	for _, l := range wrongLines() {
		wrong(l, nil, 0, api.ErrArg)
	}
	for _, l := range impossibleLines() {
		wrong(l, nil, 0, api.ErrRule)
		wrong(l, list(0, 1), 20, api.ErrRule)
	}
	for _, l := range []api.LeakLine{m, lineN()} {
		for _, off := range wrongOffs() {
			wrong(l, list(1, 2), off, api.ErrArg)
		}
		for _, points := range lists(list(-1), list(4), list(2, 1), list(1, 1), list(0, 0), list(0, 4), list(0, 1, 2, 3, 4), list(-1, 0), list(1, 2, 0), list(huge), list(-huge-1), list(0, huge)) {
			wrong(l, points, 2, api.ErrArg)
		}
	}
}

// tells reports whether two truths with other sets differ at some of the points by more than both counts can be off.
func tells(truths []fitting, points []int, off int) bool {
	for i, x := range truths {
		for _, y := range truths[:i] {
			alike := func(p int) bool { return max(x.flows[p]-y.flows[p], y.flows[p]-x.flows[p]) <= 2*off }
			if !slices.Equal(tappedIn(x.losses), tappedIn(y.losses)) && !slices.ContainsFunc(points, func(p int) bool { return !alike(p) }) {
				return false
			}
		}
	}
	return true
}

// tellsByReading reports whether just one set is left, whatever is read at points, by going through all that can be read.
func tellsByReading(truths []fitting, points []int, off int) bool {
	left := map[[api.LeakPoints]int][]int{}
	for _, x := range truths {
		set := tappedIn(x.losses)
		reads := [][api.LeakPoints]int{{}}
		for i, p := range points {
			var longer [][api.LeakPoints]int
			for _, read := range reads {
				for read[i] = max(0, x.flows[p]-off); read[i] <= min(400, x.flows[p]+off); read[i]++ {
					longer = append(longer, read)
				}
			}
			reads = longer
		}
		for _, read := range reads {
			if other, some := left[read]; some && !slices.Equal(set, other) {
				return false
			}
			left[read] = set
		}
	}
	return true
}

// P5.5: points tell the thieves just if they do by the definition, and as two truths differ.
func TestAllTells(t *testing.T) {
	r := rand.New(rand.NewPCG(5, 6))
	found := map[bool]int{}
	for range 150 {
		l := narrowLine(r, 3)
		truths := truthsOf(l)
		off := []int{0, r.IntN(2), r.IntN(4)}[r.IntN(3)]
		for _, points := range sublists(len(l.Gives) + 1) {
			if len(points) > 3 {
				break
			}
			want := tellsByReading(truths, points, off)
			found[want]++
			if y, e := leak.Tells(l, points, off); y != want || e != api.OK {
				t.Error(l, points, off, y, e, want)
			}
			if y := tells(truths, points, off); y != want {
				t.Error("the definition and the promise differ", l, points, off, y)
			}
		}
	}
	if found[true] < 100 || found[false] < 100 {
		t.Error("too few of a kind", found)
	}
}

// P5.5: the chapter's examples, lines that need no points, some, or all of them, and errors in their order.
func TestPlan(t *testing.T) {
	m := lineM()
	for i, x := range []struct {
		l    api.LeakLine
		off  int
		want []int
		e    api.Errno
	}{
		{m, 2, list(1, 2), api.OK}, {m, 3, list(1, 2), api.OK}, {m, 4, nil, api.ErrNone}, {m, 0, list(1, 2), api.OK}, {m, 20, nil, api.ErrNone},
		{with(m, 1, 90, 94), 3, list(2), api.OK}, {with(m, 1, 90, 94), 4, nil, api.ErrNone}, {with(m, 2, 90, 94), 20, nil, api.OK},
		{smallLine(), 0, nil, api.OK}, {smallLine(), 20, nil, api.OK}, {tapping(wideLine(), 0), 20, nil, api.OK},
		{wideLine(), 0, list(0, 1, 2, 3, 4, 5), api.OK}, {wideLine(), 1, nil, api.ErrNone}, {tapping(wideLine(), 1), 0, list(0, 1, 2, 3, 4, 5), api.OK},
		{line(list(0), 60, 60, 1), 14, list(0, 1), api.OK}, {line(list(0), 60, 60, 1), 15, nil, api.ErrNone},
		{line(list(0), 60, 60, 1, 0, 100, 101), 14, list(1), api.OK}, {line(list(0), 60, 60, 1, 1, 100, 101), 14, list(0), api.OK},
		{line(list(0, 0), 60, 60, 1, 0, 100, 100, 2, 40, 40), 14, list(1), api.OK}, {line(list(0, 0), 60, 60, 2, 0, 200, 200), 14, list(1, 2), api.OK},
		{fullLine(), 14, list(1, 2, 3, 4, 5), api.OK}, {fullLine(), 20, list(1, 2, 3, 4, 5), api.OK},
		// Other lists as long tell the thieves too: 1, and 0 2.
		{eitherEnd(), 9, list(0), api.OK}, {eitherEnd(), 10, list(0, 1), api.OK}, {dryEnd(), 4, list(0), api.OK}, {dryEnd(), 5, list(0, 1), api.OK}, {dryEnd(), 9, list(0, 1), api.OK}, {dryEnd(), 10, nil, api.ErrNone},
	} {
		if y, e := leak.Plan(x.l, x.off); !slices.Equal(y, x.want) || e != x.e {
			t.Error(i, y, e)
		}
	}
	wrong := func(l api.LeakLine, off int, want api.Errno) {
		if y, e := leak.Plan(l, off); len(y) > 0 || e != want {
			t.Error(l, off, y, e)
		}
	}
	for _, l := range wrongLines() {
		wrong(l, 0, api.ErrArg)
	}
	for _, l := range impossibleLines() {
		wrong(l, 0, api.ErrRule)
		wrong(l, 20, api.ErrRule)
	}
	for _, off := range wrongOffs() {
		wrong(m, off, api.ErrArg)
		wrong(lineN(), off, api.ErrArg)
	}
}

// P5.5, P0.5: no list of fewer points tells the thieves, and none as long that is before the plan.
func TestAllPlans(t *testing.T) {
	r := rand.New(rand.NewPCG(5, 7))
	found := map[int]int{}
	for range 200 {
		l := narrowLine(r, 4)
		truths := truthsOf(l)
		off := []int{0, r.IntN(4), r.IntN(10)}[r.IntN(3)]
		var want []int
		is := api.ErrNone
		for _, points := range sublists(len(l.Gives) + 1) {
			if tells(truths, points, off) {
				want, is = points, api.OK
				break
			}
		}
		found[len(want)+10*int(is)]++
		if y, e := leak.Plan(l, off); !slices.Equal(y, want) || e != is {
			t.Error(l, off, y, e, want, is)
		}
	}
	if found[0] < 20 || found[1] < 20 || found[2] < 20 || found[10*int(api.ErrNone)] < 20 {
		t.Error("too few of a kind", found)
	}
}

// P5.4, P5.5: a line with as many counts as there can be can be counted once more.
func TestFullLinesAreCounted(t *testing.T) {
	for _, l := range []api.LeakLine{fullLine(), with(lineM(), slices.Repeat(list(0, 100, 104), 6)...)} {
		if len(l.Counts) != 8 {
			t.Fatal(l)
		}
		fewer := l
		fewer.Counts = slices.Clone(l.Counts[:len(l.Counts)-1])
		for off := range 21 {
			point, suspects, e := leak.Next(l, off)
			wantPoint, wantSuspects, f := leak.Next(fewer, off)
			if point != wantPoint || suspects != wantSuspects || e != api.OK || f != api.OK {
				t.Error(l, off, point, suspects, e)
			}
			plan, e := leak.Plan(l, off)
			want, f := leak.Plan(fewer, off)
			if !slices.Equal(plan, want) || e != f {
				t.Error(l, off, plan, e, want, f)
			}
			all := []int{0, 1, 2, 3, 4, 5}[:len(l.Gives)+1]
			if y, f := leak.Tells(l, all, off); y != (e == api.OK) || f != api.OK {
				t.Error(l, off, y, f, e)
			}
		}
	}
}

// P5.6: the chapter's examples, counts that cannot be true alone, lines of which any two counts can be true, and errors.
func TestClashAndWrong(t *testing.T) {
	for i, x := range []struct {
		l          api.LeakLine
		one, other int
		e          api.Errno
		wrong      []int
	}{
		{lineN(), 0, 2, api.OK, list(0)},
		{lineM(), 0, 0, api.ErrNone, nil},
		{smallLine(), 0, 0, api.ErrNone, nil},
		{tripleLine(), 0, 0, api.ErrNone, list(0)},
		// One count alone contradicts what can flow at all, and so all others.
		{line(list(60), 1, 60, 2, 1, 341, 400), 0, 0, api.ErrNone, list(0)},
		{line(list(60), 1, 60, 2, 0, 0, 59), 0, 0, api.ErrNone, list(0)},
		{line(list(60), 1, 60, 2, 0, 60, 60, 1, 341, 400), 0, 1, api.OK, list(1)},
		{line(list(60), 1, 60, 2, 1, 341, 400, 0, 60, 60, 1, 0, 9), 0, 1, api.OK, list(0)},
		{line(list(60), 1, 60, 2, 0, 60, 70, 1, 0, 9, 1, 341, 400, 0, 0, 59), 0, 2, api.OK, list(2, 3)},
		{line(list(0), 1, 1, 0, 0, 5, 5, 0, 6, 6), 0, 1, api.OK, list(0)},
		{line(list(0), 1, 1, 0, 0, 5, 5, 0, 6, 6, 0, 5, 6), 0, 1, api.OK, list(0)},
		{line(list(0), 1, 1, 0, 0, 5, 6, 0, 6, 6, 0, 5, 5), 1, 2, api.OK, list(1)},
		{line(list(0), 1, 1, 0, 0, 6, 6, 0, 5, 5, 0, 5, 5), 0, 1, api.OK, list(0)},
		{line(list(0), 1, 1, 0, 0, 5, 5, 0, 5, 5, 0, 6, 6), 0, 2, api.OK, list(2)},
		{line(list(0), 1, 1, 0, 0, 5, 5, 0, 6, 6, 0, 5, 5, 0, 6, 6), 0, 1, api.OK, list(0, 2)},
		{line(list(0), 1, 1, 0, 0, 1, 1, 0, 2, 2, 0, 3, 3, 0, 4, 4, 0, 5, 5, 0, 6, 6, 0, 7, 7, 0, 8, 8), 0, 1, api.OK, list(0, 1, 2, 3, 4, 5, 6)},
		{line(list(0), 1, 1, 0, 0, 1, 1, 0, 2, 2, 0, 3, 3, 0, 4, 4, 0, 5, 5, 0, 6, 6, 0, 7, 7, 0, 1, 1), 0, 1, api.OK, list(1, 2, 3, 4, 5, 6)},
		{line(list(0), 1, 1, 0, 0, 0, 9, 0, 0, 9, 0, 0, 9, 0, 0, 9, 0, 0, 9, 0, 0, 9, 0, 2, 2, 0, 1, 1), 6, 7, api.OK, list(6)},
		{fullLine(), 0, 0, api.ErrNone, nil},
	} {
		if y, z, e := leak.Clash(x.l); y != x.one || z != x.other || e != x.e {
			t.Error(i, y, z, e)
		}
		if y, e := leak.Wrong(x.l); !slices.Equal(y, x.wrong) || e != api.OK {
			t.Error(i, y, e)
		}
	}
	for i, l := range wrongLines() {
		if y, z, e := leak.Clash(l); y != 0 || z != 0 || e != api.ErrArg {
			t.Error(i, y, z, e)
		}
		if y, e := leak.Wrong(l); len(y) > 0 || e != api.ErrArg {
			t.Error(i, y, e)
		}
	}
}

// P5.6: no counts that come before are enough to be dropped, and no two counts that come before contradict each other.
func TestAllClashesAndWrongs(t *testing.T) {
	r := rand.New(rand.NewPCG(5, 8))
	found := map[int]int{}
	for range 250 {
		l := someLine(r, 4, 8)
		// What holds together of the counts, in some truth, a bit each.
		together := map[int]bool{}
		eachTruth(l, func(losses, flows []int) {
			bits := 0
			for i, x := range l.Counts {
				if holds(x, flows) {
					bits |= 1 << i
				}
			}
			together[bits] = true
		})
		possible := func(counts int) bool {
			for bits := range together {
				if bits&counts == counts {
					return true
				}
			}
			return false
		}
		one, other, is := 0, 0, api.ErrNone
		for _, x := range sublists(len(l.Counts)) {
			if len(x) == 2 && !possible(1<<x[0]|1<<x[1]) {
				one, other, is = x[0], x[1], api.OK
				break
			}
		}
		if y, z, e := leak.Clash(l); y != one || z != other || e != is {
			t.Error(l, y, z, e, one, other, is)
		}
		for _, wrong := range sublists(len(l.Counts)) {
			rest := 1<<len(l.Counts) - 1
			for _, i := range wrong {
				rest &^= 1 << i
			}
			if possible(rest) {
				found[len(wrong)]++
				if y, e := leak.Wrong(l); !slices.Equal(y, wrong) || e != api.OK {
					t.Error(l, y, e, wrong)
				}
				break
			}
		}
	}
	if found[0] < 20 || found[1] < 20 || found[2] < 20 {
		t.Error("too few of a kind", found)
	}
}
