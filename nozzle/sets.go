package nozzle

import (
	"iter"
	"slices"

	"quinaria/api"
)

// systems is how many systems there are.
const systems = 2

// place returns the place of a system in a list for both of them.
func place(in api.NozzleSystem) int { return int(in - api.NozzleFirst) }

// other returns the other system.
func other(in api.NozzleSystem) api.NozzleSystem { return api.NozzleFirst + api.NozzleSecond - in }

// row is a row with what both systems count of it.
type row api.NozzleRow

func (r row) first() int { return r.First }

func (r row) second() int { return r.Second }

// counts returns what each system counts of a row.
func (r row) counts() (units [systems]int) {
	for i, count := range [systems]func(row) int{row.first, row.second} {
		units[i] = count(r)
	}
	return units
}

// units returns what a system counts of a row.
func (r row) units(in api.NozzleSystem) int { return r.counts()[place(in)] }

// pick is a set with what it counts and gives. It is a value without a slice,
// so that a set grows in many ways without a copy of each.
type pick struct {
	rows   [api.NozzleMany]int
	size   int
	counts [systems]int
	cups   int
}

// pickOf returns a set with what it counts and gives.
func pickOf(t api.NozzleTable, set []int) (p pick) {
	for _, r := range set {
		p = p.with(t, r)
	}
	return p
}

// with returns a set with a nozzle more, which must not be one too many.
func (p pick) with(t api.NozzleTable, r int) pick {
	p.rows[p.size] = r
	p.size++
	for i, units := range row(t.Rows[r]).counts() {
		p.counts[i] += units
	}
	p.cups = sum(p.cups, nozzle(r).gives(t))
	return p
}

// set returns the numbers of the rows, in memory of their own.
func (p pick) set() []int { return slices.Clone(p.rows[:p.size]) }

// units returns what a system counts of a set.
func (p pick) units(in api.NozzleSystem) int { return p.counts[place(in)] }

// sets goes through all sets of a table, each one before those that it comes before.
func sets(t api.NozzleTable) iter.Seq[pick] {
	return func(yield func(pick) bool) {
		var goOn func(p pick, from, size int) bool
		goOn = func(p pick, from, size int) bool {
			if p.size == size {
				return yield(p)
			}
			for r := from; r < len(t.Rows); r++ {
				if !goOn(p.with(t, r), r, size) {
					return false
				}
			}
			return true
		}
		for size := range api.NozzleMany + 1 {
			if !goOn(pick{}, 0, size) {
				return
			}
		}
	}
}

// counting goes through all sets that count some units, in the order of sets.
func counting(t api.NozzleTable, in api.NozzleSystem, units int) iter.Seq[pick] {
	return which(sets(t), func(p pick) bool { return p.units(in) == units })
}

// which goes through those of some things that are right.
func which[T any](things iter.Seq[T], right func(T) bool) iter.Seq[T] {
	return func(yield func(T) bool) {
		for x := range things {
			if right(x) && !yield(x) {
				return
			}
		}
	}
}

// first returns the first of some things, and whether there is one.
func first[T any](things iter.Seq[T]) (x T, some bool) {
	for x := range things {
		return x, true
	}
	return x, false
}

// best returns the first of some things than which no other one is better, and whether there is one.
func best[T any](things iter.Seq[T], better func(a, b T) bool) (x T, some bool) {
	for y := range things {
		if !some || better(y, x) {
			x, some = y, true
		}
	}
	return x, some
}

func givesMore(a, b pick) bool { return a.cups > b.cups }

func sum(cups ...int) int {
	total := 0
	for _, n := range cups {
		total += n
	}
	return total
}

// Set returns the first set that counts some units.
func Set(t api.NozzleTable, in api.NozzleSystem, units int) ([]int, api.Errno) {
	if !isTable(t) || !isSystem(in) || !areUnits(units) {
		return nil, api.ErrArg
	}
	p, some := first(counting(t, in, units))
	if !some {
		return nil, api.ErrNone
	}
	return p.set(), api.OK
}

// Fill returns the set that gives the most, up to some cups, and how many are left.
func Fill(t api.NozzleTable, cups int) ([]int, int, api.Errno) {
	if !isTable(t) || !areCups(cups) {
		return nil, 0, api.ErrArg
	}
	p, _ := best(which(sets(t), func(p pick) bool { return p.cups <= cups }), givesMore)
	return p.set(), cups - p.cups, api.OK
}

// Turn returns between which bounds the other system counts what this one counts some units.
func Turn(t api.NozzleTable, in api.NozzleSystem, units int) (api.Span, api.Errno) {
	if !isTable(t) || !isSystem(in) || !areUnits(units) {
		return api.Span{}, api.ErrArg
	}
	to := other(in)
	least, some := best(counting(t, in, units), func(a, b pick) bool { return a.units(to) < b.units(to) })
	if !some {
		return api.Span{}, api.ErrNone
	}
	most, _ := best(counting(t, in, units), func(a, b pick) bool { return a.units(to) > b.units(to) })
	return api.Span{Low: least.units(to), High: most.units(to)}, api.OK
}
