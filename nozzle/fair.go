package nozzle

import (
	"slices"

	"quinaria/api"
)

// summed is a table with its sums: for each system, and each number of units,
// what sets of some rows give that count as many. As long as no exchange has a
// gain, all of them give as much, so that one number is enough.
type summed struct {
	api.NozzleTable
	sums [systems][mostUnits + 1]total
}

// total is what all sets give that count as many units, if there are any, and
// how many nozzles the smallest one has.
type total struct {
	some       bool
	size, cups int
}

// gainful is what adding a row gives up with: an exchange has a gain.
type gainful struct{}

// summedOf returns a table with the sums of no row yet.
func summedOf(t api.NozzleTable) summed {
	s := summed{NozzleTable: t}
	for i := range systems {
		s.sums[i][0].some = true
	}
	return s
}

// with returns a table with the sums of some rows more, and whether no exchange has a gain with them.
func (s summed) with(rows ...int) (more summed, fair bool) {
	defer func() {
		if _, is := recover().(gainful); is {
			more, fair = summed{}, false
		}
	}()
	for _, r := range rows {
		for i, units := range row(s.Rows[r]).counts() {
			s.add(i, units, s.Rows[r].Gives)
		}
	}
	return s, true
}

// add adds the sets with nozzles of a row to the sums of a system, or gives up
// if one of them gives more or less than others. The smallest set for each
// number of units can have a nozzle more if any one can.
func (s *summed) add(system, units, gives int) {
	sums := &s.sums[system]
	for n := units; n <= mostUnits; n++ {
		rest, known := sums[n-units], sums[n]
		if !rest.some || rest.size == api.NozzleMany {
			continue
		}
		cups := sum(rest.cups, gives)
		if known.some && known.cups != cups {
			panic(gainful{})
		}
		if !known.some || rest.size+1 < known.size {
			sums[n] = total{true, rest.size + 1, cups}
		}
	}
}

// Fair reports whether a table is fair.
func Fair(t api.NozzleTable) (bool, api.Errno) {
	if !isTable(t) {
		return false, api.ErrArg
	}
	var rows []int
	for r := range len(t.Rows) {
		rows = append(rows, r)
	}
	_, fair := summedOf(t).with(rows...)
	return fair, api.OK
}

// Keeps returns the most rows that can stay.
func Keeps(t api.NozzleTable) ([]int, api.Errno) {
	if !isTable(t) {
		return nil, api.ErrArg
	}
	return mostFair(t), api.OK
}

// mostFair returns the first of the longest lists of rows of which a table is
// fair. Lists with a row come before those as long that skip it, so that each
// row is taken first, and skipped only then.
func mostFair(t api.NozzleTable) (most []int) {
	var taken []int
	var goOn func(s summed, next int)
	goOn = func(s summed, next int) {
		if len(taken) > len(most) {
			most = slices.Clone(taken)
		}
		left := len(t.Rows) - next
		if len(taken)+left <= len(most) {
			return
		}
		if more, fair := s.with(next); fair {
			taken = append(taken, next)
			goOn(more, next+1)
			taken = taken[:len(taken)-1]
		}
		goOn(s, next+1)
	}
	goOn(summedOf(t), 0)
	return most
}
