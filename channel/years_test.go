package channel_test

import (
	"math/rand/v2"
	"slices"
	"testing"

	"quinaria/api"
	"quinaria/channel"
)

// wrongNeeds are numbers that are no needs.
func wrongNeeds() []int { return list(0, -1, 10000001, huge, -huge-1) }

// P2.3: the chapter's examples, the ends of ages, and errors in their order.
func TestLatest(t *testing.T) {
	for i, x := range []struct {
		l            api.ChannelLine
		number, need int
		want         int
		e            api.Errno
	}{
		{lineP(), 2, 3000, 29, api.OK},
		{lineP(), 0, 5000, 59, api.OK},
		{lineP(), 1, 6001, 0, api.ErrNone},
		{lineP(), 1, 6000, 19, api.OK},
		{lineP(), 1, 2100, 139, api.OK},
		{lineP(), 1, 600, 200, api.OK},
		{lineP(), 1, 601, 199, api.OK},
		{lineP(), 1, 1, 200, api.OK},
		// It carries this with the least rate at any age, but with the greatest one not even for a year.
		{one(stretch(10, 20, 0, 0, 100)), 0, 1400, 0, api.OK},
		{one(stretch(10, 20, 0, 0, 100)), 0, 1401, 0, api.ErrNone},
		{one(stretch(10, 20, 0, 0, 0)), 0, 1400, 200, api.OK},
		{one(stretch(10, 20, 0, 100, 100)), 0, 1, 4, api.OK},
		{fullLine(), 7, 10000000, 0, api.OK},
		{fullLine(), 8, 10000000, 0, api.ErrArg},
		{lineP(), 3, 1, 0, api.ErrArg},
		{lineP(), -1, 1, 0, api.ErrArg},
		{lineP(), huge, 1, 0, api.ErrArg},
	} {
		if y, e := channel.Latest(x.l, x.number, x.need); y != x.want || e != x.e {
			t.Error(i, y, e)
		}
	}
	for _, need := range wrongNeeds() {
		if y, e := channel.Latest(lineP(), 0, need); y != 0 || e != api.ErrArg {
			t.Error(need, y, e)
		}
	}
	for i, l := range wrongLines() {
		if y, e := channel.Latest(l, 0, 1); y != 0 || e != api.ErrArg {
			t.Error(i, y, e)
		}
	}
}

// P2.3: the chapter's example, breadths that need not or cannot be greater, and errors in their order.
func TestWiden(t *testing.T) {
	narrow := one(stretch(1, 10, 0, 0, 10))
	for i, x := range []struct {
		l    api.ChannelLine
		ages []int
		need int
		want []int
		e    api.Errno
	}{
		{lineP(), list(50, 50, 0), 6000, list(22, 31, 10), api.OK},
		{lineP(), list(0, 0, 0), 6000, list(20, 24, 10), api.OK},
		{lineP(), list(200, 200, 200), 1, list(41, 24, 0), api.ErrNone},
		{lineP(), list(200, 200, 190), 1, list(41, 24, 39), api.OK},
		{narrow, list(10), 1, list(3), api.OK},
		{narrow, list(9), 7 * 10 * 100, list(100), api.OK},
		{narrow, list(10), 7 * 9 * 98, list(100), api.OK},
		{narrow, list(10), 7*9*98 + 1, nil, api.ErrNone},
		{narrow, list(100), 1, nil, api.ErrNone},
		{fullLine(), make([]int, 8), 10000000, slices.Repeat(list(100), 8), api.OK},
		{fullLine(), list(0, 0, 0, 0, 0, 0, 0, 1), 10000000, nil, api.ErrNone},
		{fullLine(), list(1, 0, 0, 0, 0, 0, 0, 0), 10000000, nil, api.ErrNone},
		{narrow, nil, 1, nil, api.ErrArg},
		{narrow, list(201), 1, nil, api.ErrArg},
		{narrow, list(-1), 10000000, nil, api.ErrArg},
		{narrow, list(0, 0), 10000000, nil, api.ErrArg},
	} {
		want := x.want
		if x.e != api.OK {
			want = nil
		}
		if y, e := channel.Widen(x.l, x.ages, x.need); !slices.Equal(y, want) || e != x.e {
			t.Error(i, y, e)
		}
	}
	for _, need := range wrongNeeds() {
		if y, e := channel.Widen(lineP(), list(0, 0, 0), need); len(y) > 0 || e != api.ErrArg {
			t.Error(need, y, e)
		}
	}
	for i, l := range wrongLines() {
		if y, e := channel.Widen(l, make([]int, len(l.Stretches)), 1); len(y) > 0 || e != api.ErrArg {
			t.Error(i, y, e)
		}
	}
}

// P2.3, P0.2: at the age that is returned a stretch surely carries the need, at
// the next one it does not; and with a lesser breadth it does not.
func TestAllAgesAndBreadths(t *testing.T) {
	r := rand.New(rand.NewPCG(2, 3))
	for range 300 {
		l := someLine(r, 4, 30)
		ages, need := someAges(r, l), someNeed(r, l)
		var widths []int
		for number, age := range ages {
			want, f := latest(l, number, need), api.OK
			if want < 0 {
				want, f = 0, api.ErrNone
			}
			if y, e := channel.Latest(l, number, need); y != want || e != f {
				t.Error(l, number, need, y, e)
			}
			wider := line(l.Speeds, slices.Clone(l.Stretches)...)
			for breadth := 100; breadth >= l.Stretches[number].Breadth; breadth-- {
				wider.Stretches[number].Breadth = breadth
				if surely(wider, number, age, need) {
					widths = append(widths[:number], breadth)
				}
			}
			if len(widths) <= number {
				widths = nil
				break
			}
		}
		f := api.OK
		if widths == nil {
			f = api.ErrNone
		}
		if y, e := channel.Widen(l, ages, need); !slices.Equal(y, widths) || e != f {
			t.Error(l, ages, need, y, e)
		}
	}
}

// P2.4: the chapter's examples, the ends of until, plans that there are not, and errors in their order.
func TestPlan(t *testing.T) {
	// Each of these stretches carries 1 cup up to the age 49.
	alike := line(list(1), slices.Repeat([]api.ChannelStretch{stretch(100, 5, 0, 1, 10)}, 8)...)
	aged := func(lasts ...int) []int {
		ages := make([]int, 8)
		for i, last := range lasts {
			ages[i] = 49 - last
		}
		return ages
	}
	for i, x := range []struct {
		l           api.ChannelLine
		ages        []int
		need, until int
		want        []int
		e           api.Errno
	}{
		{lineP(), list(50, 0, 0), 5000, 40, list(8, 39, 9), api.OK},
		{lineP(), list(50, 0, 0), 5000, 39, list(8, -1, 9), api.OK},
		{lineP(), list(50, 0, 10), 5000, 39, nil, api.ErrNone},
		{lineP(), list(0, 0, 0), 5000, 9, list(-1, -1, -1), api.OK},
		{lineP(), list(0, 0, 0), 5000, 10, list(-1, -1, 9), api.OK},
		{lineP(), list(0, 0, 0), 5000, 0, list(-1, -1, -1), api.OK},
		// The stretch 2 carries it to the age 9: at 10 it is due, but no year is left for it.
		{lineP(), list(0, 0, 9), 5000, 0, list(-1, -1, -1), api.OK},
		{lineP(), list(0, 0, 9), 5000, 1, list(-1, -1, 0), api.OK},
		{lineP(), list(0, 0, 10), 5000, 0, nil, api.ErrNone},
		{lineP(), list(0, 0, 200), 5000, 0, nil, api.ErrNone},
		{lineP(), list(59, 0, 9), 5000, 40, nil, api.ErrNone},
		{lineP(), list(58, 0, 9), 5000, 40, list(1, 39, 0), api.OK},
		// The stretch 1 carries 600 at each age, so it is never due; but 601 only up to the age 199.
		{lineP(), list(0, 200, 0), 600, 40, list(-1, -1, -1), api.OK},
		{lineP(), list(60, 200, 20), 600, 40, list(39, -1, 29), api.OK},
		{lineP(), list(60, 199, 20), 601, 40, list(39, 0, 29), api.OK},
		{lineP(), list(60, 199, 20), 601, 0, list(-1, -1, -1), api.OK},
		{lineP(), list(60, 200, 20), 601, 40, nil, api.ErrNone},
		{lineP(), list(60, 200, 20), 601, 0, nil, api.ErrNone},
		{lineP(), list(0, 0, 0), 6001, 0, nil, api.ErrNone},
		{lineP(), list(0, 0, 0), 10000000, 40, nil, api.ErrNone},
		{one(stretch(10, 20, 0, 100, 100)), list(200), 1, 40, nil, api.ErrNone},
		{one(stretch(10, 20, 0, 0, 0)), list(200), 1400, 40, list(-1), api.OK},
		{one(stretch(10, 20, 0, 0, 0)), list(200), 1401, 0, nil, api.ErrNone},
		{alike, aged(39, 39, 39, 39, 39, 39, 39, 39), 1, 40, list(32, 33, 34, 35, 36, 37, 38, 39), api.OK},
		{alike, aged(7, 7, 7, 7, 7, 7, 7, 7), 1, 40, list(0, 1, 2, 3, 4, 5, 6, 7), api.OK},
		{alike, aged(6, 6, 6, 6, 6, 6, 6, 6), 1, 40, nil, api.ErrNone},
		{alike, aged(0, 1, 2, 3, 4, 5, 6, 7), 1, 40, list(0, 1, 2, 3, 4, 5, 6, 7), api.OK},
		{alike, aged(7, 6, 5, 4, 3, 2, 1, 0), 1, 40, list(7, 6, 5, 4, 3, 2, 1, 0), api.OK},
		{alike, aged(12, 10, 12, 10, 12, 10, 9, 9), 1, 40, list(5, 6, 11, 7, 12, 10, 8, 9), api.OK},
		{alike, aged(0, 0, 49, 49, 49, 49, 49, 49), 1, 40, nil, api.ErrNone},
		{alike, aged(0, 1, 49, 49, 49, 49, 49, 49), 1, 40, list(0, 1, -1, -1, -1, -1, -1, -1), api.OK},
		{lineP(), list(0, 0, 0), 6001, -1, nil, api.ErrArg},
		{lineP(), list(0, 0, 0), 6001, 41, nil, api.ErrArg},
		{lineP(), list(0, 0, 0), 6001, huge, nil, api.ErrArg},
		{lineP(), list(0, 0, 0), 6001, -huge - 1, nil, api.ErrArg},
		{lineP(), list(0, 0), 6001, 0, nil, api.ErrArg},
		{lineP(), list(0, 0, 201), 6001, 0, nil, api.ErrArg},
		{lineP(), list(-1, 0, 0), 6001, 0, nil, api.ErrArg},
	} {
		if y, e := channel.Plan(x.l, x.ages, x.need, x.until); !slices.Equal(y, x.want) || e != x.e {
			t.Error(i, y, e)
		}
	}
	for _, need := range wrongNeeds() {
		if y, e := channel.Plan(lineP(), list(0, 0, 0), need, 0); len(y) > 0 || e != api.ErrArg {
			t.Error(need, y, e)
		}
	}
	for i, l := range wrongLines() {
		if y, e := channel.Plan(l, make([]int, len(l.Stretches)), 1, 0); len(y) > 0 || e != api.ErrArg {
			t.Error(i, y, e)
		}
	}
}

// planOf returns the best plan by trying all plans, and whether there is one.
func planOf(l api.ChannelLine, ages []int, need, until int) (plan []int, some bool) {
	var sets [][]int
	for number, age := range ages {
		greatest := latest(l, number, need)
		if greatest < 0 {
			return nil, false
		}
		years := list(-1)
		if greatest < 200 && greatest-age < until {
			years = numbersOf(span(0, greatest-age))
		}
		sets = append(sets, years)
	}
	most := -1
	lists(sets, func(proposed []int) {
		sum, taken := 0, map[int]bool{}
		for _, year := range proposed {
			if taken[year] {
				return
			}
			if year >= 0 {
				taken[year] = true
				sum += year
			}
		}
		if sum > most {
			plan, some, most = proposed, true, sum
		}
	})
	return plan, some
}

// P2.4: no plan has a greater sum, and no plan that is as good comes first.
func TestNoPlanIsBetter(t *testing.T) {
	r := rand.New(rand.NewPCG(2, 4))
	plans, none := 0, 0
	for range 1500 {
		l := someLine(r, 5, 30)
		need, until := 1+r.IntN(50), r.IntN(41)
		if r.IntN(4) == 0 {
			need = someNeed(r, l)
		}
		ages := someAges(r, l)
		for number := range ages {
			// So that there are few years from which all plans can be built.
			if greatest := latest(l, number, need); greatest >= 0 {
				ages[number] = min(200, max(0, greatest-r.IntN(7)))
				if greatest < 200 && r.IntN(40) == 0 {
					ages[number] = greatest + 1
				}
			}
		}
		want, some := planOf(l, ages, need, until)
		f := api.OK
		if !some {
			f = api.ErrNone
			none++
		} else if slices.Max(want) >= 0 {
			plans++
		}
		if y, e := channel.Plan(l, ages, need, until); !slices.Equal(y, want) || e != f {
			t.Error(l, ages, need, until, y, e, want)
		}
	}
	if plans < 300 || none < 100 {
		t.Error("too few of either kind", plans, none)
	}
}

// P2.5: the chapter's examples, no counts, counts that contradict each other, and errors in their order.
func TestLime(t *testing.T) {
	closed := one(stretch(10, 20, 0, 0, 100))
	for i, x := range []struct {
		l      api.ChannelLine
		number int
		notes  []api.ChannelNote
		want   api.Span
		e      api.Errno
	}{
		{lineP(), 0, notes(note(50, 5000, 8000)), span(6, 10), api.OK},
		{lineP(), 0, notes(note(50, 5000, 8000), note(100, 0, 3000)), span(7, 10), api.OK},
		{lineP(), 0, notes(note(100, 0, 3000), note(50, 5000, 8000)), span(7, 10), api.OK},
		{lineP(), 0, nil, span(4, 10), api.OK},
		{lineP(), 2, notes(note(20, 3240, 3240)), span(10, 10), api.OK},
		{lineP(), 2, notes(note(20, 3241, 10000000)), span(0, 0), api.ErrRule},
		{lineP(), 2, notes(note(20, 0, 3239)), span(0, 0), api.ErrRule},
		{lineP(), 0, notes(note(0, 12000, 12000)), span(4, 10), api.OK},
		{lineP(), 0, notes(note(0, 0, 11999)), span(0, 0), api.ErrRule},
		{lineP(), 0, notes(note(50, 5000, 5000)), span(10, 10), api.OK},
		{lineP(), 0, notes(note(50, 8960, 8960)), span(4, 5), api.OK},
		{lineP(), 0, notes(note(50, 8960, 8960), note(50, 5000, 5000)), span(0, 0), api.ErrRule},
		{closed, 0, notes(note(200, 0, 0)), span(3, 100), api.OK},
		{closed, 0, notes(note(200, 1, 10000000)), span(0, 2), api.OK},
		{closed, 0, notes(note(1, 0, 10000000)), span(0, 100), api.OK},
		{closed, 0, slices.Repeat(notes(note(200, 1, 1399)), 8), span(1, 2), api.OK},
		{closed, 0, slices.Repeat(notes(note(200, 1, 1399)), 9), span(0, 0), api.ErrArg},
		{lineP(), 3, nil, span(0, 0), api.ErrArg},
		{lineP(), -1, notes(note(0, 0, 0)), span(0, 0), api.ErrArg},
		{lineP(), 0, notes(note(-1, 0, 0)), span(0, 0), api.ErrArg},
		{lineP(), 0, notes(note(201, 0, 0)), span(0, 0), api.ErrArg},
		{lineP(), 0, notes(note(0, -1, 0)), span(0, 0), api.ErrArg},
		{lineP(), 0, notes(note(0, 1, 0)), span(0, 0), api.ErrArg},
		{lineP(), 0, notes(note(0, 0, 10000001)), span(0, 0), api.ErrArg},
		{lineP(), 0, notes(note(0, 0, 0), note(0, 10000001, 10000001)), span(0, 0), api.ErrArg},
		{lineP(), 0, notes(note(huge, -huge-1, huge)), span(0, 0), api.ErrArg},
		{lineP(), 0, notes(note(0, 0, 0), note(-huge-1, 0, 0)), span(0, 0), api.ErrArg},
	} {
		if y, e := channel.Lime(x.l, x.number, x.notes); y != x.want || e != x.e {
			t.Error(i, y, e)
		}
	}
	for i, l := range wrongLines() {
		if y, e := channel.Lime(l, 0, nil); y != span(0, 0) || e != api.ErrArg {
			t.Error(i, y, e)
		}
	}
}

// P2.5: each rate that agrees with all counts lies within the bounds, and both ends agree.
func TestAllRates(t *testing.T) {
	r := rand.New(rand.NewPCG(2, 5))
	both := map[bool]int{}
	for range 800 {
		l := someLine(r, 2, 60)
		number := r.IntN(len(l.Stretches))
		var counts []api.ChannelNote
		for range r.IntN(4) {
			age := r.IntN(201)
			all := cupsOf(l, number, age)
			counted := all[r.IntN(len(all))]
			counts = append(counts, note(age, max(0, counted-r.IntN(200)), counted+r.IntN(200)))
		}
		var rates []int
		for _, rate := range numbersOf(l.Stretches[number].Lime) {
			if !slices.ContainsFunc(counts, func(x api.ChannelNote) bool {
				n := cups(l, number, x.Age, rate)
				return n < x.Cups.Low || n > x.Cups.High
			}) {
				rates = append(rates, rate)
			}
		}
		want, f := span(0, 0), api.ErrRule
		if len(rates) > 0 {
			want, f = span(slices.Min(rates), slices.Max(rates)), api.OK
		}
		both[len(rates) > 0]++
		if y, e := channel.Lime(l, number, counts); y != want || e != f {
			t.Error(l, number, counts, y, e)
		}
	}
	if both[false] < 50 || both[true] < 50 {
		t.Error("too few of either kind", both)
	}
}
