package castle

import (
	"iter"
	"slices"

	"quinaria/api"
)

// moved is other heights for a castle, with their change.
type moved struct {
	heights []int
	change  int
}

// Gains returns who gains and who loses by a change.
func Gains(b api.CastleBasin, x api.CastleChange, cups int) ([]int, int, api.Errno) {
	if !isCastle(b) || !isChange(b, x) || !areCups(cups) {
		return nil, 0, api.ErrArg
	}
	f := flowingOf(b)
	before, overBefore := f.shares(cups)
	gains, over := f.with(x).shares(cups)
	for i, n := range before {
		gains[i] -= n
	}
	return gains, over - overBefore, api.OK
}

// with returns a castle with a change.
func (f *flowing) with(x api.CastleChange) *flowing {
	heights := f.heights()
	heights[x.Nozzle] = x.Height
	return f.at(heights)
}

// Mends returns the best heights for claims, and their change.
func Mends(b api.CastleBasin, claims []int, cups int) ([]int, int, api.Errno) {
	if !isCastle(b) || !areClaims(b, claims) || !areCups(cups) {
		return nil, 0, api.ErrArg
	}
	f := flowingOf(b)
	x, some := best(f.sufficing(claims, cups), func(a, b moved) bool { return a.change < b.change })
	if !some {
		return nil, 0, api.ErrNone
	}
	return x.heights, x.change, api.OK
}

// sufficing goes through all other heights that suffice for claims and some cups, in lexicographic order.
func (f *flowing) sufficing(claims []int, cups int) iter.Seq[moved] {
	return func(yield func(moved) bool) {
		for x := range f.others() {
			shares, _ := f.at(x.heights).shares(cups)
			if areMet(claims, shares) && !yield(x) {
				return
			}
		}
	}
}

// areMet reports whether each share is at least its claim.
func areMet(claims, shares []int) bool {
	for i, claim := range claims {
		if shares[i] < claim {
			return false
		}
	}
	return true
}

// others goes through all other heights for a castle, in lexicographic order.
func (f *flowing) others() iter.Seq[moved] {
	return func(yield func(moved) bool) {
		var heights []int
		var goOn func(change int) bool
		goOn = func(change int) bool {
			k := len(heights)
			if k == len(f.Nozzles) {
				return yield(moved{slices.Clone(heights), change})
			}
			own := f.Nozzles[k].Height
			for height := own - api.CastleMove; height <= own+api.CastleMove; height++ {
				if !isHeight(height) {
					continue
				}
				heights = append(heights, height)
				if !goOn(change + max(own-height, height-own)) {
					return false
				}
				heights = heights[:k]
			}
			return true
		}
		goOn(0)
	}
}

// Lowered returns all changes with which a castle agrees with counts.
func Lowered(b api.CastleBasin, cups int, counts []api.Span) ([]api.CastleChange, api.Errno) {
	if !isCastle(b) || !areCups(cups) || !areCounts(b, counts) {
		return nil, api.ErrArg
	}
	f := flowingOf(b)
	var agreeing []api.CastleChange
changes:
	for x := range f.changes() {
		shares, _ := f.with(x).shares(cups)
		for i, n := range shares {
			if !isWithin(counts[i], n) {
				continue changes
			}
		}
		agreeing = append(agreeing, x)
	}
	return agreeing, api.OK
}

// changes goes through all changes to a height other than the nozzle's own.
func (f *flowing) changes() iter.Seq[api.CastleChange] {
	return func(yield func(api.CastleChange) bool) {
		for i, x := range f.Nozzles {
			for height := range api.CastleHeight + 1 {
				if height != x.Height && !yield(api.CastleChange{Nozzle: i, Height: height}) {
					return
				}
			}
		}
	}
}

// best returns the first of some things than which no other one is better, and whether there is one.
func best[T any](things iter.Seq[T], better func(a, b T) bool) (x T, some bool) {
	for y := range things {
		if !some || better(y, x) {
			x, some = y, true
		}
	}
	return x, some
}
