package nozzle

import (
	"slices"

	"quinaria/api"
)

// mostUnits is how many units a set counts at most.
const mostUnits = api.NozzleMany * api.NozzleUnits

func isTable(t api.NozzleTable) bool {
	return isFrom(1, api.NozzleRows, len(t.Rows)) && all(t.Rows, isSize) && isFrom(0, api.NozzleDraw, t.Draw)
}

// isSize reports whether a row is as defined.
func isSize(x api.NozzleRow) bool {
	return isFrom(1, api.NozzleUnits, x.First) && isFrom(1, api.NozzleUnits, x.Second) && isFrom(1, api.NozzleGives, x.Gives)
}

func isSystem(in api.NozzleSystem) bool { return in == api.NozzleFirst || in == api.NozzleSecond }

// isRow reports whether a table has a row with a number.
func isRow(t api.NozzleTable, r int) bool { return isFrom(0, len(t.Rows)-1, r) }

func isSet(t api.NozzleTable, set []int) bool {
	return areOutlets(t, nozzlesOf(set)) && slices.IsSorted(set)
}

// areOutlets reports whether outlets are not too many, and all of sizes of a table.
func areOutlets(t api.NozzleTable, outlets []outlet) bool {
	return len(outlets) <= api.NozzleMany && all(outlets, func(x outlet) bool { return isOf(t, x) })
}

// isOf reports whether an outlet is of sizes of a table.
func isOf(t api.NozzleTable, x outlet) bool {
	switch y := x.(type) {
	case nozzle:
		return isRow(t, int(y))
	case spout:
		return isRow(t, y.Nozzle) && isRow(t, y.Pipe)
	}
	return false
}

func areUnits(units int) bool { return isFrom(0, mostUnits, units) }

func areCups(cups int) bool { return isFrom(0, api.NozzleFlow, cups) }

func isCount(x api.Span) bool { return areCups(x.Low) && areCups(x.High) && x.Low <= x.High }

func isFind(f api.NozzleFind) bool { return isSpan(f.First) && isSpan(f.Second) && isSpan(f.Gives) }

// isSpan reports whether a span is one from 0 on, without a limit.
func isSpan(x api.Span) bool { return 0 <= x.Low && x.Low <= x.High }

func isWithin(x api.Span, n int) bool { return isFrom(x.Low, x.High, n) }

func isFrom(low, high, n int) bool { return low <= n && n <= high }

func all[T any](list []T, right func(T) bool) bool {
	return !slices.ContainsFunc(list, func(x T) bool { return !right(x) })
}
