package nozzle_test

import (
	"math/rand/v2"
	"slices"

	"quinaria/api"
)

const huge = int(^uint(0) >> 1)

func span(low, high int) api.Span { return api.Span{Low: low, High: high} }

func list(n ...int) []int { return n }

func lists(x ...[]int) [][]int { return x }

func row(first, second, gives int) api.NozzleRow {
	return api.NozzleRow{First: first, Second: second, Gives: gives}
}

func table(draw int, rows ...api.NozzleRow) api.NozzleTable {
	return api.NozzleTable{Rows: rows, Draw: draw}
}

func find(first, second, gives api.Span) api.NozzleFind {
	return api.NozzleFind{First: first, Second: second, Gives: gives}
}

// spouts returns spouts with a nozzle and a pipe, one after the other.
func spouts(n ...int) []api.NozzleSpout {
	var out []api.NozzleSpout
	for i := 0; i < len(n); i += 2 {
		out = append(out, api.NozzleSpout{Nozzle: n[i], Pipe: n[i+1]})
	}
	return out
}

func bothSystems() []api.NozzleSystem {
	return []api.NozzleSystem{api.NozzleFirst, api.NozzleSecond}
}

// tableT is the chapter's table t.
func tableT() api.NozzleTable { return table(50, row(5, 4, 10), row(10, 8, 20), row(20, 15, 45)) }

// fullTable is a table with as much of everything as there can be.
func fullTable() api.NozzleTable {
	return table(100, slices.Repeat([]api.NozzleRow{row(60, 60, 1000)}, 12)...)
}

// leastTable is a table with as little of everything as there can be.
func leastTable() api.NozzleTable { return table(0, row(1, 1, 1)) }

// fairTable is a table in which both systems count what is given.
func fairTable() api.NozzleTable { return table(10, row(1, 2, 7), row(2, 4, 14), row(5, 10, 35)) }

// halfFair is a table from which nobody gains whom the first system counts.
func halfFair() api.NozzleTable { return table(0, row(1, 1, 7), row(2, 1, 14), row(3, 4, 21)) }

// wrongTables are tables each of which is not as defined in one way.
func wrongTables() []api.NozzleTable {
	good := row(5, 4, 10)
	wrong := []api.NozzleTable{
		{}, table(0), {Rows: []api.NozzleRow{}}, table(0, slices.Repeat([]api.NozzleRow{good}, 13)...),
		table(-1, good), table(101, good), table(huge, good), table(-huge-1, good),
	}
	for _, n := range list(0, -1, -huge-1, huge) {
		for _, x := range []api.NozzleRow{row(n, 4, 10), row(5, n, 10), row(5, 4, n)} {
			wrong = append(wrong, table(50, x), table(50, good, x))
		}
	}
	for _, x := range []api.NozzleRow{row(61, 4, 10), row(5, 61, 10), row(5, 4, 1001), {}} {
		wrong = append(wrong, table(50, x), table(50, good, x))
	}
	return wrong
}

// wrongSystems are numbers that are no systems.
func wrongSystems() []api.NozzleSystem {
	return []api.NozzleSystem{0, 3, -1, api.NozzleSystem(huge), api.NozzleSystem(-huge - 1)}
}

// wrongSets are lists that are no sets of a table of three rows.
func wrongSets() [][]int {
	return lists(list(3), list(-1), list(0, 3), list(-1, 0), list(1, 0), list(0, 2, 1), list(0, 0, 0, 0, 0, 1, 0),
		slices.Repeat(list(0), 7), slices.Repeat(list(2), 1000), list(huge), list(-huge-1), list(0, huge))
}

// wrongCounts are spans that are no counts.
func wrongCounts() []api.Span {
	return []api.Span{span(-1, 5), span(6, 5), span(-2, -1), span(0, 10001), span(10001, 10001), span(-huge-1, huge), span(huge, huge), span(huge, -huge-1)}
}

// unitsOf returns what a system counts of a set, as the chapter defines it.
func unitsOf(t api.NozzleTable, in api.NozzleSystem, set []int) int {
	units := 0
	for _, r := range set {
		if in == api.NozzleFirst {
			units += t.Rows[r].First
		} else {
			units += t.Rows[r].Second
		}
	}
	return units
}

// cupsOf returns what a set gives, as the chapter defines it.
func cupsOf(t api.NozzleTable, set []int) int {
	cups := 0
	for _, r := range set {
		cups += t.Rows[r].Gives
	}
	return cups
}

// isBefore reports whether a set comes before another one.
func isBefore(a, b []int) bool {
	return len(a) < len(b) || len(a) == len(b) && slices.Compare(a, b) < 0
}

// allSets returns all sets of a table, by how many nozzles of each row they have; their order is not that of the chapter.
func allSets(t api.NozzleTable) [][]int {
	sets := lists(nil)
	for r := range t.Rows {
		for _, set := range slices.Clone(sets) {
			for len(set) < 6 {
				set = append(slices.Clone(set), r)
				sets = append(sets, set)
			}
		}
	}
	return sets
}

// setsThat returns all sets of a table that are right.
func setsThat(t api.NozzleTable, right func([]int) bool) [][]int {
	return slices.DeleteFunc(allSets(t), func(set []int) bool { return !right(set) })
}

// earliest returns the set that comes before all others, of those that are worth the most.
func earliest(sets [][]int, worth func([]int) int) []int {
	x := sets[0]
	for _, set := range sets {
		if worth(set) > worth(x) || worth(set) == worth(x) && isBefore(set, x) {
			x = set
		}
	}
	return x
}

// someTable returns a table with up to so many rows, whose numbers are small enough for many exchanges.
func someTable(r *rand.Rand, rows int) api.NozzleTable {
	t := table([]int{0, 50, 100, r.IntN(101)}[r.IntN(4)])
	units, rate := []int{4, 9, 60}[r.IntN(3)], 1+r.IntN(10)
	for range 1 + r.IntN(rows) {
		x := row(1+r.IntN(units), 1+r.IntN(units), 1+r.IntN(60))
		switch r.IntN(4) {
		case 0, 1:
			x.Gives = x.First * rate
		case 2:
			x.Second = x.First
		}
		t.Rows = append(t.Rows, x)
	}
	return t
}

// someSet returns a set of a table.
func someSet(r *rand.Rand, t api.NozzleTable, most int) []int {
	var set []int
	for range r.IntN(most + 1) {
		set = append(set, r.IntN(len(t.Rows)))
	}
	slices.Sort(set)
	return set
}

// someSpan returns a span about a number, from 0 to a limit.
func someSpan(r *rand.Rand, n, limit int) api.Span {
	return span(max(0, n-r.IntN(4)), min(limit, n+r.IntN(4)))
}

// sameTable reports whether two tables are the same value.
func sameTable(a, b api.NozzleTable) bool { return a.Draw == b.Draw && slices.Equal(a.Rows, b.Rows) }

// isNone reports whether a table is the zero value.
func isNone(t api.NozzleTable) bool { return sameTable(t, api.NozzleTable{}) }
