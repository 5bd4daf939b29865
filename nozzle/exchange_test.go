package nozzle_test

import (
	"math/rand/v2"
	"slices"
	"testing"

	"quinaria/api"
	"quinaria/nozzle"
)

// P3.3: the chapter's examples, sets that are the best already, sets that give as much, and errors.
func TestGain(t *testing.T) {
	for i, x := range []struct {
		t    api.NozzleTable
		in   api.NozzleSystem
		set  []int
		want []int
		gain int
		e    api.Errno
	}{
		{tableT(), api.NozzleFirst, list(1, 1), list(2), 5, api.OK},
		{tableT(), api.NozzleFirst, list(2), list(2), 0, api.OK},
		{tableT(), api.NozzleFirst, list(0, 0, 0, 0), list(2), 5, api.OK},
		{tableT(), api.NozzleFirst, list(0, 0), list(1), 0, api.OK},
		{tableT(), api.NozzleFirst, slices.Repeat(list(1), 6), list(2, 2, 2), 15, api.OK},
		{tableT(), api.NozzleSecond, list(1, 1), list(1, 1), 0, api.OK},
		{tableT(), api.NozzleSecond, list(0, 0, 0, 0), list(1, 1), 0, api.OK},
		{tableT(), api.NozzleFirst, nil, nil, 0, api.OK},
		{halfFair(), api.NozzleSecond, list(0), list(1), 7, api.OK},
		{halfFair(), api.NozzleSecond, list(2), list(1, 1, 1, 1), 35, api.OK},
		{halfFair(), api.NozzleFirst, list(0, 0, 0, 0, 0, 0), list(2, 2), 0, api.OK},
		{fullTable(), api.NozzleFirst, list(11), list(0), 0, api.OK},
	} {
		if y, gain, e := nozzle.Gain(x.t, x.in, x.set); !slices.Equal(y, x.want) || gain != x.gain || e != x.e {
			t.Error(i, y, gain, e)
		}
	}
	for i, x := range wrongTables() {
		if y, gain, e := nozzle.Gain(x, api.NozzleFirst, nil); len(y) > 0 || gain != 0 || e != api.ErrArg {
			t.Error(i, y, gain, e)
		}
	}
	for i, in := range wrongSystems() {
		if y, gain, e := nozzle.Gain(tableT(), in, list(1, 1)); len(y) > 0 || gain != 0 || e != api.ErrArg {
			t.Error(i, y, gain, e)
		}
	}
	for i, set := range wrongSets() {
		if y, gain, e := nozzle.Gain(tableT(), api.NozzleFirst, set); len(y) > 0 || gain != 0 || e != api.ErrArg {
			t.Error(i, y, gain, e)
		}
	}
}

// P3.3: the chapter's example, which one it is of several, tables from which nobody gains, and errors.
func TestMost(t *testing.T) {
	six := func(r int) []int { return slices.Repeat(list(r), 6) }
	for i, x := range []struct {
		t         api.NozzleTable
		in        api.NozzleSystem
		away, got []int
		gain      int
		e         api.Errno
	}{
		{tableT(), api.NozzleFirst, list(1, 1, 1, 1, 1, 1), list(2, 2, 2), 15, api.OK},
		{tableT(), api.NozzleSecond, nil, nil, 0, api.ErrNone},
		{table(0, row(1, 1, 3), row(1, 1, 1)), api.NozzleFirst, six(1), six(0), 12, api.OK},
		{table(0, row(1, 1, 1), row(1, 1, 1), row(1, 1, 3), row(1, 1, 3)), api.NozzleSecond, six(0), six(2), 12, api.OK},
		// With 5 units or 6 the gain is 14: a nozzle of the row 0 more on both sides gains nothing.
		{table(0, row(1, 1, 1), row(5, 7, 19)), api.NozzleFirst, list(0, 0, 0, 0, 0), list(1), 14, api.OK},
		{table(0, row(1, 1, 1), row(5, 7, 19)), api.NozzleSecond, nil, nil, 0, api.ErrNone},
		// Two nozzles of the row 2 give less than three of the row 1.
		{table(0, row(1, 1, 10), row(2, 1, 1), row(3, 1, 1)), api.NozzleFirst, list(2, 2), six(0), 58, api.OK},
		{leastTable(), api.NozzleFirst, nil, nil, 0, api.ErrNone},
		{fullTable(), api.NozzleSecond, nil, nil, 0, api.ErrNone},
		{fairTable(), api.NozzleFirst, nil, nil, 0, api.ErrNone},
		{halfFair(), api.NozzleFirst, nil, nil, 0, api.ErrNone},
		{table(0, row(60, 60, 1), row(60, 60, 1000)), api.NozzleFirst, six(0), six(1), 5994, api.OK},
		{table(0, row(1, 1, 1), row(6, 7, 7)), api.NozzleFirst, six(0), list(1), 1, api.OK},
		{table(0, row(1, 1, 1), row(6, 7, 5)), api.NozzleFirst, list(1), six(0), 1, api.OK},
	} {
		away, got, gain, e := nozzle.Most(x.t, x.in)
		if !slices.Equal(away, x.away) || !slices.Equal(got, x.got) || gain != x.gain || e != x.e {
			t.Error(i, away, got, gain, e)
		}
	}
	for i, x := range wrongTables() {
		if away, got, gain, e := nozzle.Most(x, api.NozzleFirst); len(away) > 0 || len(got) > 0 || gain != 0 || e != api.ErrArg {
			t.Error(i, away, got, gain, e)
		}
	}
	for i, in := range wrongSystems() {
		if away, got, gain, e := nozzle.Most(tableT(), in); len(away) > 0 || len(got) > 0 || gain != 0 || e != api.ErrArg {
			t.Error(i, away, got, gain, e)
		}
	}
}

// mostOf returns the best exchange by looking at all of them.
func mostOf(t api.NozzleTable, in api.NozzleSystem) (away, got []int, gain int, e api.Errno) {
	byUnits := map[int][][]int{}
	for _, set := range allSets(t) {
		units := unitsOf(t, in, set)
		byUnits[units] = append(byUnits[units], set)
	}
	for units := range 361 {
		for _, a := range byUnits[units] {
			for _, b := range byUnits[units] {
				more := cupsOf(t, b) - cupsOf(t, a)
				same := more == gain && gain > 0 && units == unitsOf(t, in, away)
				if more > gain || same && (isBefore(a, away) || slices.Equal(a, away) && isBefore(b, got)) {
					away, got, gain = a, b, more
				}
			}
		}
	}
	if gain == 0 {
		return nil, nil, 0, api.ErrNone
	}
	return away, got, gain, api.OK
}

// isFair reports whether all sets that count as much give as much.
func isFair(t api.NozzleTable) bool {
	for _, in := range bothSystems() {
		cups := map[int]int{}
		for _, set := range allSets(t) {
			units := unitsOf(t, in, set)
			if n, some := cups[units]; some && n != cupsOf(t, set) {
				return false
			}
			cups[units] = cupsOf(t, set)
		}
	}
	return true
}

// P3.3, P0.3: no exchange has a greater gain than the one that is returned, nor comes before it; and a table is fair just if there is none.
func TestNoExchangeIsBetter(t *testing.T) {
	r := rand.New(rand.NewPCG(3, 5))
	fair := map[bool]int{}
	for range 150 {
		x := someTable(r, 4)
		nobody := true
		for _, in := range bothSystems() {
			away, got, gain, e := mostOf(x, in)
			nobody = nobody && e == api.ErrNone
			if y, z, n, f := nozzle.Most(x, in); !slices.Equal(y, away) || !slices.Equal(z, got) || n != gain || f != e {
				t.Error(x, in, y, z, n, f, away, got)
			}
		}
		fair[nobody]++
		if y, e := nozzle.Fair(x); y != nobody || e != api.OK {
			t.Error(x, y, e)
		}
	}
	if fair[false] < 30 || fair[true] < 30 {
		t.Error("too few of either kind", fair)
	}
}

// P3.3, P0.3: no set that counts as much as a set gives more than the one that is got, nor as much and comes before it.
func TestNoGainIsGreater(t *testing.T) {
	r := rand.New(rand.NewPCG(3, 6))
	for range 200 {
		x := someTable(r, 5)
		set := someSet(r, x, 6)
		for _, in := range bothSystems() {
			others := setsThat(x, func(other []int) bool { return unitsOf(x, in, other) == unitsOf(x, in, set) })
			want := earliest(others, func(other []int) int { return cupsOf(x, other) })
			if y, gain, e := nozzle.Gain(x, in, set); !slices.Equal(y, want) || gain != cupsOf(x, want)-cupsOf(x, set) || e != api.OK {
				t.Error(x, in, set, y, gain, e, want)
			}
		}
	}
}

// P3.3: tables that only one system, few nozzles or three rows make unfair, and errors.
func TestFair(t *testing.T) {
	for i, x := range []struct {
		t    api.NozzleTable
		want bool
	}{
		{tableT(), false},
		{leastTable(), true},
		{fullTable(), true},
		{fairTable(), true},
		{halfFair(), false},
		// The systems of the half fair table the other way round.
		{table(0, row(1, 1, 7), row(1, 2, 14), row(4, 3, 21)), false},
		{table(0, row(1, 1, 7), row(1, 1, 8)), false},
		{table(0, row(1, 1, 7), row(1, 1, 7)), true},
		// Six nozzles of the row 0 count as much as five of the row 1; seven would be too many.
		{table(0, row(5, 5, 50), row(6, 6, 60)), true},
		{table(0, row(5, 5, 50), row(6, 6, 61)), false},
		{table(0, row(5, 5, 50), row(7, 7, 1)), true},
		{table(0, row(1, 1, 1), row(6, 6, 6)), true},
		{table(0, row(1, 1, 1), row(6, 6, 7)), false},
		{table(0, row(1, 1, 1), row(7, 7, 1)), true},
		// 5 and 17 count as much as two of 11; any two of these rows need too many.
		{table(0, row(5, 5, 50), row(11, 11, 1), row(17, 17, 1)), false},
		{table(0, row(5, 5, 50), row(17, 17, 1)), true},
		{table(0, row(11, 11, 1), row(17, 17, 1)), true},
		{table(0, row(5, 5, 50), row(11, 11, 1)), true},
		{table(0, row(5, 5, 1), row(11, 11, 50), row(17, 17, 99)), true},
		// Six nozzles of the row 0 count as much as one of the row 1, of which again six count as much as one of the row 2.
		{table(0, row(1, 1, 1), row(6, 6, 6), row(36, 36, 36)), true},
		{table(0, row(1, 1, 1), row(6, 6, 6), row(36, 36, 5)), false},
	} {
		if y, e := nozzle.Fair(x.t); y != x.want || e != api.OK {
			t.Error(i, y, e)
		}
	}
	for i, x := range wrongTables() {
		if y, e := nozzle.Fair(x); y || e != api.ErrArg {
			t.Error(i, y, e)
		}
	}
}

// P3.4: the chapter's example, the least of several rates, rates that are bounded, and errors.
func TestMend(t *testing.T) {
	for i, x := range []struct {
		t    api.NozzleTable
		in   api.NozzleSystem
		cups []int
		off  int
	}{
		{tableT(), api.NozzleFirst, list(10, 20, 40), 5},
		// With the rate 2 the row 2 gives 15 less, with 3 it gives the same, and the row 1 4 more.
		{tableT(), api.NozzleSecond, list(12, 24, 45), 4},
		{fairTable(), api.NozzleFirst, list(7, 14, 35), 0},
		{leastTable(), api.NozzleSecond, list(1), 0},
		{fullTable(), api.NozzleFirst, slices.Repeat(list(960), 12), 40},
		// 20 and 30 are as near to 25.
		{table(7, row(10, 1, 25)), api.NozzleFirst, list(20), 5},
		{table(7, row(10, 1, 25)), api.NozzleSecond, list(25), 0},
		// The rate is at least 1.
		{table(0, row(60, 1, 1)), api.NozzleFirst, list(60), 59},
		// It is 16 at most, so that the row 0 gives no more than 960.
		{table(0, row(60, 1, 1), row(1, 1, 1000)), api.NozzleFirst, list(960, 16), 984},
		{table(0, row(60, 1, 1000), row(1, 1, 1000)), api.NozzleFirst, list(960, 16), 984},
		{table(0, row(60, 1, 1), row(30, 1, 1000)), api.NozzleFirst, list(660, 330), 670},
		{table(0, row(50, 1, 1000), row(1, 1, 1000)), api.NozzleFirst, list(1000, 20), 980},
		{table(0, row(1, 1, 1000)), api.NozzleFirst, list(1000), 0},
	} {
		want := table(x.t.Draw, slices.Clone(x.t.Rows)...)
		for n := range want.Rows {
			want.Rows[n].Gives = x.cups[n]
		}
		if y, off, e := nozzle.Mend(x.t, x.in); !sameTable(y, want) || off != x.off || e != api.OK {
			t.Error(i, y, off, e)
		}
	}
	for i, x := range wrongTables() {
		if y, off, e := nozzle.Mend(x, api.NozzleFirst); !isNone(y) || off != 0 || e != api.ErrArg {
			t.Error(i, y, off, e)
		}
	}
	for i, in := range wrongSystems() {
		if y, off, e := nozzle.Mend(tableT(), in); !isNone(y) || off != 0 || e != api.ErrArg {
			t.Error(i, y, off, e)
		}
	}
}

// P3.4: no rate comes nearer, nor a lesser one as near; and nobody gains from a mended table whom its system counts.
func TestNoRateIsNearer(t *testing.T) {
	r := rand.New(rand.NewPCG(3, 7))
	for range 300 {
		x := someTable(r, 6)
		for n := range x.Rows {
			if r.IntN(3) == 0 {
				x.Rows[n].Gives = 1 + r.IntN(1000)
			}
		}
		for _, in := range bothSystems() {
			var want api.NozzleTable
			least := huge
			for rate := 1; rate <= 1000; rate++ {
				tried, off, most := table(x.Draw, slices.Clone(x.Rows)...), 0, 0
				for n, old := range x.Rows {
					gives := unitsOf(x, in, list(n)) * rate
					tried.Rows[n].Gives = gives
					off, most = max(off, gives-old.Gives, old.Gives-gives), max(most, gives)
				}
				if most <= 1000 && off < least {
					want, least = tried, off
				}
			}
			y, off, e := nozzle.Mend(x, in)
			if !sameTable(y, want) || off != least || e != api.OK {
				t.Error(x, in, y, off, e, want)
			}
			if _, _, gain, e := nozzle.Most(y, in); gain != 0 || e != api.ErrNone {
				t.Error(x, in, y, gain, e)
			}
		}
	}
}

// P3.4: the chapter's example, the first one of several lists, tables that are fair, and errors.
func TestKeeps(t *testing.T) {
	for i, x := range []struct {
		t    api.NozzleTable
		want []int
	}{
		{tableT(), list(0, 1)},
		{leastTable(), list(0)},
		{fairTable(), list(0, 1, 2)},
		{fullTable(), list(0, 1, 2, 3, 4, 5, 6, 7, 8, 9, 10, 11)},
		{table(0, row(1, 1, 7), row(1, 1, 8)), list(0)},
		{table(0, row(1, 1, 7), row(1, 1, 8), row(1, 1, 8)), list(1, 2)},
		{table(0, row(1, 1, 7), row(1, 1, 8), row(1, 1, 7), row(1, 1, 8)), list(0, 2)},
		{table(0, row(1, 1, 9), row(1, 1, 8), row(1, 1, 7), row(1, 1, 7), row(1, 1, 8)), list(1, 4)},
		// Only all three of them count as much.
		{table(0, row(5, 5, 50), row(11, 11, 1), row(17, 17, 1)), list(0, 1)},
		{table(0, row(5, 5, 50), row(11, 11, 1), row(17, 17, 1), row(5, 5, 50)), list(0, 1, 3)},
		// The second system counts the rows 0 and 1 as much, and the row 2 as four of either.
		{halfFair(), list(0)},
		{table(0, row(1, 1, 7), row(2, 1, 14), row(3, 3, 21)), list(0, 2)},
		{table(0, row(1, 1, 7), row(2, 1, 14), row(3, 7, 21)), list(0, 2)},
		{table(0, row(1, 1, 8), row(2, 1, 14), row(3, 7, 21)), list(1, 2)},
		{table(0, row(1, 1, 1), row(6, 6, 6), row(36, 36, 5)), list(0, 1)},
	} {
		if y, e := nozzle.Keeps(x.t); !slices.Equal(y, x.want) || e != api.OK {
			t.Error(i, y, e)
		}
	}
	for i, x := range wrongTables() {
		if y, e := nozzle.Keeps(x); len(y) > 0 || e != api.ErrArg {
			t.Error(i, y, e)
		}
	}
}

// P3.4, P0.3: a table with the rows that stay is fair, with no more rows one is, and no list that is as long comes before.
func TestNoMoreRowsStay(t *testing.T) {
	r := rand.New(rand.NewPCG(3, 8))
	stay := map[int]int{}
	for range 150 {
		x := someTable(r, 6)
		var want []int
		for chosen := range 1 << len(x.Rows) {
			var rows []int
			tried := table(x.Draw)
			for n, y := range x.Rows {
				if chosen>>n&1 == 1 {
					rows, tried.Rows = append(rows, n), append(tried.Rows, y)
				}
			}
			if len(rows) < max(1, len(want)) || len(rows) == len(want) && slices.Compare(rows, want) > 0 {
				continue
			}
			if isFair(tried) {
				want = rows
			}
		}
		stay[len(x.Rows)-len(want)]++
		if y, e := nozzle.Keeps(x); !slices.Equal(y, want) || e != api.OK {
			t.Error(x, y, e, want)
		}
	}
	if stay[0] < 20 || stay[1] < 20 || stay[2] < 20 {
		t.Error("too few of some kind", stay)
	}
}
