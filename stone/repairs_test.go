package stone_test

import (
	"math/rand/v2"
	"slices"
	"testing"

	"quinaria/api"
	"quinaria/stone"
)

// work returns a work, whose faults have Stone, Days, Lead and Tiles, one after the other.
func work(stones, base, walk, gangs int, n ...int) api.StoneWork {
	w := api.StoneWork{Stones: stones, Base: base, Walk: walk, Gangs: gangs}
	for i := 0; i < len(n); i += 4 {
		w.Faults = append(w.Faults, api.StoneFault{Stone: n[i], Days: n[i+1], Lead: n[i+2], Tiles: n[i+3]})
	}
	return w
}

// workW is the chapter's work w.
func workW() api.StoneWork { return work(5, 2, 1, 2, 0, 3, 3, 0, 4, 2, 0, 5, 3, 1, 1, 0) }

// fullWork is a work with as much of everything as there can be.
func fullWork() api.StoneWork {
	return work(8, 7, 9, 3, slices.Repeat(list(0, 60, 1000, 1000, 7, 60, 1000, 1000), 3)...)
}

// ourWorks are works of all kinds.
func ourWorks() []api.StoneWork {
	return []api.StoneWork{workW(), fullWork(), work(2, 0, 0, 1), work(2, 1, 9, 3), work(2, 1, 9, 2, 0, 1, 0, 0), work(8, 3, 2, 3, 3, 60, 1, 1, 3, 60, 1, 1, 3, 60, 1, 1), work(8, 4, 5, 2, 7, 3, 9, 9, 0, 4, 2, 1, 2, 1, 0, 0, 5, 9, 1, 0)}
}

// changedWork returns a work in memory of its own, with some change.
func changedWork(w api.StoneWork, change func(*api.StoneWork)) api.StoneWork {
	w.Faults = slices.Clone(w.Faults)
	change(&w)
	return w
}

// withGangs returns a work with another number of gangs.
func withGangs(w api.StoneWork, gangs int) api.StoneWork {
	return changedWork(w, func(w *api.StoneWork) { w.Gangs = gangs })
}

// wrongWorks are works each of which is not as defined in one way.
func wrongWorks() []api.StoneWork {
	var wrong []api.StoneWork
	for _, n := range list(-1, 1001, huge, -huge-1) {
		for _, change := range []func(*api.StoneWork){
			func(w *api.StoneWork) { w.Stones = n }, func(w *api.StoneWork) { w.Base = n }, func(w *api.StoneWork) { w.Walk = n }, func(w *api.StoneWork) { w.Gangs = n }, func(w *api.StoneWork) { w.Faults[0].Stone = n },
			func(w *api.StoneWork) { w.Faults[2].Stone = n }, func(w *api.StoneWork) { w.Faults[1].Days = n }, func(w *api.StoneWork) { w.Faults[2].Lead = n }, func(w *api.StoneWork) { w.Faults[0].Tiles = n },
		} {
			wrong = append(wrong, changedWork(workW(), change))
		}
	}
	return append(wrong,
		api.StoneWork{}, work(0, 0, 1, 1), work(1, 0, 1, 1), work(9, 0, 1, 1), work(5, 5, 1, 1), work(2, 2, 0, 1), work(8, 8, 0, 1), work(5, 0, 10, 1), work(5, 0, 1, 0), work(5, 0, 1, 4), work(5, 0, 1, 1, 5, 1, 0, 0), work(5, 0, 1, 1, 0, 0, 0, 0),
		work(5, 0, 1, 1, 0, 61, 0, 0), work(5, 0, 1, 1, 0, 1, 1001, 0), work(5, 0, 1, 1, 0, 1, 0, 1001), work(5, 0, 1, 1, slices.Repeat(list(0, 1, 0, 0), 7)...), work(5, 0, 1, 1, slices.Repeat(list(0, 1, 0, 0), 1000)...))
}

// wrongFaults are lists that are no numbers of faults of the work w in increasing order.
func wrongFaults() [][]int {
	return lists(list(-1), list(3), list(huge), list(-huge-1), list(0, 0), list(1, 0), list(2, 1, 0), list(0, 1, 2, 3), list(0, 1, 1, 2), list(0, 2, 1), list(-1, 0), make([]int, 100000))
}

// wrongPlans are lists that are no plans of the work w.
func wrongPlans() [][]int {
	return lists(nil, list(0), list(0, 1), list(0, 1, 1, 0), list(-1, 0, 0), list(0, 2, 0), list(0, 0, 2), list(0, 0, huge), list(-huge-1, 0, 0), make([]int, 100000))
}

// someWork returns a work with up to 6 faults.
func someWork(r *rand.Rand) api.StoneWork {
	w := api.StoneWork{Stones: 2 + r.IntN(7), Walk: r.IntN(10), Gangs: 1 + r.IntN(3)}
	w.Base = r.IntN(w.Stones)
	days := []int{3, 12, 60}[r.IntN(3)]
	for range r.IntN(7) {
		w.Faults = append(w.Faults, api.StoneFault{Stone: r.IntN(w.Stones), Days: 1 + r.IntN(days), Lead: r.IntN(1001), Tiles: r.IntN(1001)})
	}
	return w
}

// timeInAnyOrder returns the least time of some faults, of all orders in which a gang can go to them from a stone on.
func timeInAnyOrder(w api.StoneWork, at int, faults []int) int {
	if len(faults) == 0 {
		return 0
	}
	least := huge
	for i, k := range faults {
		x := w.Faults[k]
		rest := slices.Delete(slices.Clone(faults), i, i+1)
		least = min(least, w.Walk*max(at-x.Stone, x.Stone-at)+x.Days+timeInAnyOrder(w, x.Stone, rest))
	}
	return least
}

// knownTimes returns the time of all parts of the faults, each by the sum of 2 to the power of the numbers in it.
func knownTimes(w api.StoneWork) []int {
	times := make([]int, 1<<len(w.Faults))
	for bits := range times {
		var faults []int
		for k := range w.Faults {
			if bits>>k&1 == 1 {
				faults = append(faults, k)
			}
		}
		times[bits] = timeInAnyOrder(w, w.Base, faults)
	}
	return times
}

// planTimes returns the time of each gang with a plan.
func planTimes(times, plan []int) []int {
	var bits [3]int
	for k, gang := range plan {
		bits[gang] += 1 << k
	}
	return list(times[bits[0]], times[bits[1]], times[bits[2]])
}

// bestOf returns the best plan, and its time: all plans are counted, the last number being the fastest.
func bestOf(w api.StoneWork, times []int) (best []int, least int) {
	least = huge
	plan := make([]int, len(w.Faults))
	for {
		if time := slices.Max(planTimes(times, plan)); time < least {
			best, least = slices.Clone(plan), time
		}
		k := len(plan) - 1
		for k >= 0 && plan[k] == w.Gangs-1 {
			plan[k] = 0
			k--
		}
		if k < 0 {
			return best, least
		}
		plan[k]++
	}
}

// P9.6: works of all kinds are as defined, up to all limits, and each of the wrong ones is not.
func TestCheckWork(t *testing.T) {
	for i, w := range append(ourWorks(), work(8, 0, 0, 1, slices.Repeat(list(7, 1, 0, 0), 6)...), work(2, 0, 9, 3, 1, 60, 0, 1000, 1, 1, 1000, 0)) {
		if e := stone.CheckWork(w); e != api.OK {
			t.Error(i, w, e)
		}
	}
	for i, w := range wrongWorks() {
		if e := stone.CheckWork(w); e != api.ErrArg {
			t.Error(i, w, e)
		}
	}
}

// P9.6: the chapter's times, and edges.
func TestTime(t *testing.T) {
	for i, x := range []struct {
		w      api.StoneWork
		faults []int
		want   int
		e      api.Errno
	}{
		{workW(), list(0, 1, 2), 12, api.OK}, {workW(), list(1, 2), 5, api.OK}, {workW(), list(0), 5, api.OK}, {workW(), list(1), 4, api.OK}, {workW(), list(2), 2, api.OK}, {workW(), nil, 0, api.OK}, {workW(), list(0, 2), 8, api.OK}, {workW(), list(0, 1), 11, api.OK},
		{work(2, 0, 9, 1), nil, 0, api.OK}, {work(2, 0, 9, 1), list(0), 0, api.ErrArg}, {work(8, 0, 9, 1, 7, 60, 0, 0), list(0), 123, api.OK}, {work(8, 7, 9, 1, 7, 60, 0, 0), list(0), 60, api.OK}, {work(8, 7, 9, 1, 0, 60, 0, 0), list(0), 123, api.OK},
		{work(8, 5, 2, 1, 0, 1, 0, 0, 7, 1, 0, 0), list(0, 1), 20, api.OK}, {work(8, 2, 2, 1, 0, 1, 0, 0, 7, 1, 0, 0), list(0, 1), 20, api.OK}, {work(8, 2, 0, 1, 0, 1, 0, 0, 7, 1, 0, 0), list(0, 1), 2, api.OK}, {fullWork(), list(0, 1, 2, 3, 4, 5), 423, api.OK},
	} {
		if y, e := stone.Time(x.w, x.faults); y != x.want || e != x.e {
			t.Error(i, y, e)
		}
	}
	for i, faults := range wrongFaults() {
		if y, e := stone.Time(workW(), faults); y != 0 || e != api.ErrArg {
			t.Error(i, y, e)
		}
	}
	for i, w := range wrongWorks() {
		if y, e := stone.Time(w, nil); y != 0 || e != api.ErrArg {
			t.Error(i, y, e)
		}
	}
}

// P9.6: the chapter's best plan, and edges.
func TestCrew(t *testing.T) {
	for i, x := range []struct {
		w    api.StoneWork
		plan []int
		time int
	}{
		{workW(), list(0, 1, 1), 5}, {withGangs(workW(), 1), list(0, 0, 0), 12}, {withGangs(workW(), 3), list(0, 1, 1), 5}, {work(2, 1, 9, 3), nil, 0}, {work(2, 1, 9, 2, 0, 1, 0, 0), list(0), 10}, {work(2, 1, 0, 3, 0, 5, 0, 0, 0, 2, 0, 0, 0, 3, 0, 0), list(0, 1, 1), 5},
		{work(2, 1, 0, 3, 0, 2, 0, 0, 0, 3, 0, 0, 0, 5, 0, 0), list(0, 0, 1), 5}, {work(8, 3, 2, 3, 3, 60, 1, 1, 3, 60, 1, 1, 3, 60, 1, 1), list(0, 1, 2), 60}, {work(8, 3, 2, 2, 3, 60, 1, 1, 3, 60, 1, 1, 3, 60, 1, 1), list(0, 0, 1), 120},
		{work(8, 3, 9, 2, 0, 9, 0, 0, 7, 9, 0, 0, 3, 1, 0, 0, 2, 1, 0, 0), list(0, 1, 0, 0), 45}, {fullWork(), list(0, 0, 1, 1, 2, 2), 183},
	} {
		if y, time, e := stone.Crew(x.w); !slices.Equal(y, x.plan) || time != x.time || e != api.OK {
			t.Error(i, y, time, e)
		}
	}
	for i, w := range wrongWorks() {
		if y, time, e := stone.Crew(w); len(y) > 0 || time != 0 || e != api.ErrArg {
			t.Error(i, y, time, e)
		}
	}
}

// P9.6: the chapter's numbers of gangs, and edges.
func TestNeeds(t *testing.T) {
	three := work(2, 0, 0, 1, 0, 5, 0, 0, 0, 6, 0, 0, 0, 7, 0, 0)
	for i, x := range []struct {
		w          api.StoneWork
		days, want int
		e          api.Errno
	}{
		{workW(), 5, 2, api.OK}, {workW(), 12, 1, api.OK}, {workW(), 4, 0, api.ErrNone}, {workW(), 11, 2, api.OK}, {workW(), 10000, 1, api.OK}, {workW(), 10001, 0, api.ErrArg}, {workW(), -1, 0, api.ErrArg}, {workW(), huge, 0, api.ErrArg}, {workW(), -huge - 1, 0, api.ErrArg},
		{workW(), 0, 0, api.ErrNone}, {withGangs(workW(), 1), 5, 2, api.OK}, {withGangs(workW(), 3), 5, 2, api.OK}, {withGangs(workW(), 3), 12, 1, api.OK}, {three, 18, 1, api.OK}, {three, 17, 2, api.OK}, {three, 11, 2, api.OK}, {three, 10, 3, api.OK},
		{three, 7, 3, api.OK}, {three, 6, 0, api.ErrNone}, {work(2, 1, 9, 3), 0, 1, api.OK}, {fullWork(), 182, 0, api.ErrNone}, {fullWork(), 183, 3, api.OK}, {fullWork(), 242, 3, api.OK}, {fullWork(), 243, 2, api.OK},
	} {
		if y, e := stone.Needs(x.w, x.days); y != x.want || e != x.e {
			t.Error(i, y, e)
		}
	}
	for i, w := range wrongWorks() {
		if y, e := stone.Needs(w, 100); y != 0 || e != api.ErrArg {
			t.Error(i, y, e)
		}
	}
}

// P9.6, P9.9: in no order is a gang done sooner, with no plan are all, and with one gang more the best plan is not slower.
func TestWorks(t *testing.T) {
	r := rand.New(rand.NewPCG(9, 10))
	for i := range 250 {
		w := someWork(r)
		if i < len(ourWorks()) {
			w = ourWorks()[i]
		}
		times := knownTimes(w)
		for bits, want := range times {
			var faults []int
			for k := range w.Faults {
				if bits>>k&1 == 1 {
					faults = append(faults, k)
				}
			}
			if y, e := stone.Time(w, faults); y != want || e != api.OK {
				t.Error(w, faults, y, e, want)
			}
		}
		before := huge
		for gangs := 1; gangs <= 3; gangs++ {
			plan, least := bestOf(withGangs(w, gangs), times)
			y, time, e := stone.Crew(withGangs(w, gangs))
			if !slices.Equal(y, plan) || time != least || e != api.OK || time > before {
				t.Error(w, gangs, y, time, e, plan, least, before)
			}
			// As many gangs suffice from the time of their best plan on, up to that of fewer ones.
			if time < before {
				for _, days := range list(time, min(before-1, 10000)) {
					if y, e := stone.Needs(w, days); y != gangs || e != api.OK {
						t.Error(w, gangs, days, y, e)
					}
				}
			}
			before = time
		}
		if y, e := stone.Needs(w, before-1); y != 0 || e == api.OK {
			t.Error(w, before, y, e)
		}
	}
}

// P9.7: the chapter's bill, and edges.
func TestBill(t *testing.T) {
	chapter := api.StonePrices{Wage: 4, Lead: 2, Tile: 3}
	for i, x := range []struct {
		w    api.StoneWork
		plan []int
		p    api.StonePrices
		want int
	}{
		{workW(), list(0, 1, 1), chapter, 63}, {workW(), list(1, 0, 0), chapter, 63}, {workW(), list(0, 0, 0), chapter, 71}, {workW(), list(0, 1, 0), chapter, 71}, {workW(), list(0, 1, 1), api.StonePrices{}, 0},
		{workW(), list(0, 1, 1), api.StonePrices{Wage: 1}, 10}, {workW(), list(0, 1, 1), api.StonePrices{Lead: 1}, 4}, {workW(), list(0, 1, 1), api.StonePrices{Tile: 1}, 5}, {work(2, 0, 9, 3), nil, chapter, 0},
		{fullWork(), list(0, 0, 0, 0, 0, 0), api.StonePrices{Wage: 100, Lead: 100, Tile: 100}, 1242300}, {fullWork(), list(2, 2, 2, 2, 2, 2), api.StonePrices{Wage: 100}, 42300},
	} {
		if y, e := stone.Bill(x.w, x.plan, x.p); y != x.want || e != api.OK {
			t.Error(i, y, e)
		}
	}
	for i, plan := range wrongPlans() {
		if y, e := stone.Bill(workW(), plan, chapter); y != 0 || e != api.ErrArg {
			t.Error(i, y, e)
		}
	}
	for i, w := range wrongWorks() {
		if y, e := stone.Bill(w, make([]int, len(w.Faults)), chapter); y != 0 || e != api.ErrArg {
			t.Error(i, y, e)
		}
	}
	for _, n := range list(-1, 101, huge, -huge-1) {
		for i, p := range []api.StonePrices{{Wage: n}, {Lead: n}, {Tile: n}} {
			if y, e := stone.Bill(workW(), list(0, 1, 1), p); y != 0 || e != api.ErrArg {
				t.Error(n, i, y, e)
			}
		}
	}
}

// P9.7: any plan costs the days of all gangs, and what all faults need.
func TestBills(t *testing.T) {
	r := rand.New(rand.NewPCG(9, 11))
	for range 400 {
		w := someWork(r)
		p := api.StonePrices{Wage: r.IntN(101), Lead: r.IntN(101), Tile: r.IntN(101)}
		var plan []int
		want := 0
		for _, x := range w.Faults {
			plan = append(plan, r.IntN(w.Gangs))
			want += x.Lead*p.Lead + x.Tiles*p.Tile
		}
		for _, days := range planTimes(knownTimes(w), plan) {
			want += days * p.Wage
		}
		if y, e := stone.Bill(w, plan, p); y != want || e != api.OK {
			t.Error(w, plan, p, y, e, want)
		}
	}
}
