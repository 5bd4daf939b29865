package nozzle

import (
	"iter"

	"quinaria/api"
)

// exchange is a set that is given away, and one that is got for it.
type exchange struct{ away, got pick }

func (x exchange) gain() int { return x.got.cups - x.away.cups }

// Gain returns the best exchange for a set, and its gain.
func Gain(t api.NozzleTable, in api.NozzleSystem, set []int) ([]int, int, api.Errno) {
	if !isTable(t) || !isSystem(in) || !isSet(t, set) {
		return nil, 0, api.ErrArg
	}
	away := pickOf(t, set)
	got, _ := best(counting(t, in, away.units(in)), givesMore)
	return got.set(), exchange{away, got}.gain(), api.OK
}

// Most returns the exchange with the greatest gain, and the gain.
func Most(t api.NozzleTable, in api.NozzleSystem) ([]int, []int, int, api.Errno) {
	if !isTable(t) || !isSystem(in) {
		return nil, nil, 0, api.ErrArg
	}
	x, _ := best(exchanges(t, in), func(a, b exchange) bool { return a.gain() > b.gain() })
	if x.gain() == 0 {
		return nil, nil, 0, api.ErrNone
	}
	return x.away.set(), x.got.set(), x.gain(), api.OK
}

// exchanges goes through the best exchange for each number of units that sets count, from the fewest on.
func exchanges(t api.NozzleTable, in api.NozzleSystem) iter.Seq[exchange] {
	return func(yield func(exchange) bool) {
		known := bestExchanges(t, in)
		for units := range mostUnits + 1 {
			if x, some := known[units]; some && !yield(x) {
				return
			}
		}
	}
}

// bestExchanges returns, for each number of units that sets count, the first
// set that gives the least and the first one that gives the most.
func bestExchanges(t api.NozzleTable, in api.NozzleSystem) map[int]exchange {
	known := map[int]exchange{}
	for p := range sets(t) {
		units := p.units(in)
		x, some := known[units]
		switch {
		case !some:
			known[units] = exchange{p, p}
		case givesMore(x.away, p):
			known[units] = exchange{p, x.got}
		case givesMore(p, x.got):
			known[units] = exchange{x.away, p}
		}
	}
	return known
}

// rated is a rate with the greatest difference of an old and a new Gives.
type rated struct{ rate, off int }

// Mend returns the mended table for a system, and the greatest difference.
func Mend(t api.NozzleTable, in api.NozzleSystem) (api.NozzleTable, int, api.Errno) {
	if !isTable(t) || !isSystem(in) {
		return api.NozzleTable{}, 0, api.ErrArg
	}
	nearest, _ := best(rates(t, in), func(a, b rated) bool { return a.off < b.off })
	mended := api.NozzleTable{Draw: t.Draw}
	for _, x := range t.Rows {
		x.Gives = row(x).units(in) * nearest.rate
		mended.Rows = append(mended.Rows, x)
	}
	return mended, nearest.off, api.OK
}

// rates goes through all rates with which no row gives too much, from the least on.
func rates(t api.NozzleTable, in api.NozzleSystem) iter.Seq[rated] {
	return func(yield func(rated) bool) {
	search:
		for rate := 1; ; rate++ {
			off := 0
			for _, x := range t.Rows {
				gives := row(x).units(in) * rate
				if gives > api.NozzleGives {
					break search
				}
				off = max(off, gives-x.Gives, x.Gives-gives)
			}
			if !yield(rated{rate, off}) {
				return
			}
		}
	}
}
