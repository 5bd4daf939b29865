package grant

import (
	"cmp"
	"slices"

	"quinaria/api"
	"quinaria/nozzle"
)

func isBook(b api.GrantBook) bool {
	return nozzle.Check(b.Table) == api.OK && isFrom(0, api.GrantSupply, b.Supply) && isFrom(0, api.GrantTerm, b.Term) &&
		isFrom(1, api.GrantPersons, b.Persons) && len(b.Owners) <= api.GrantEstates &&
		all(b.Owners, func(owner int) bool { return isPerson(b, owner) }) &&
		len(b.Events) <= api.GrantEvents && areEvents(b, b.Events) && slices.IsSortedFunc(b.Events, byDay)
}

func byDay(x, y api.GrantEvent) int { return cmp.Compare(x.Day, y.Day) }

// areEvents reports whether events are as defined but for the order of their days.
func areEvents(b api.GrantBook, events []api.GrantEvent) bool {
	return all(events, func(x api.GrantEvent) bool { return isDay(x.Day) && areFields(b, x) })
}

// areFields reports whether the fields of an event's kind are as defined, and all other ones 0.
func areFields(b api.GrantBook, x api.GrantEvent) bool {
	system := int(x.System)
	switch eventOf(x).(type) {
	case give, ask:
		return isPerson(b, x.Person) && isSystem(x.System) && areUnits(x.Units) && areZero(x.Other, x.Estate, x.Grant)
	case attach:
		return isEstate(x.Estate) && isSystem(x.System) && areUnits(x.Units) && areZero(x.Person, x.Other, x.Grant)
	case die:
		return isPerson(b, x.Person) && isPerson(b, x.Other) && areZero(x.Estate, x.Grant, system, x.Units)
	case sell:
		return isEstate(x.Estate) && isPerson(b, x.Person) && areZero(x.Other, x.Grant, system, x.Units)
	case divide:
		return isGrant(x.Grant) && areUnits(x.Units) && isPerson(b, x.Person) && areZero(x.Other, x.Estate, system)
	case join:
		return isEstate(x.Estate) && isEstate(x.Other) && areZero(x.Person, x.Grant, system, x.Units)
	case renew:
		return isGrant(x.Grant) && isPerson(b, x.Person) && areZero(x.Other, x.Estate, system, x.Units)
	}
	return false
}

func areZero(fields ...int) bool { return all(fields, func(n int) bool { return n == 0 }) }

// areTorn reports whether torn places are as defined.
func areTorn(b api.GrantBook, torn []api.GrantTorn) bool {
	if len(torn) > api.GrantPlaces {
		return false
	}
	from := 0
	for _, x := range torn {
		if !isFrom(from, len(b.Events)-1, x.Event) || !isFrom(1, api.GrantOptions, len(x.Options)) || !areEvents(b, x.Options) {
			return false
		}
		from = x.Event + 1
	}
	return true
}

func isDay(day int) bool { return isFrom(0, api.GrantDays, day) }

func isPerson(b api.GrantBook, person int) bool { return isFrom(0, b.Persons-1, person) }

// isEstate reports whether a number can be that of an estate, whether there is such a one or not.
func isEstate(estate int) bool { return isFrom(0, api.GrantEstates+api.GrantEvents, estate) }

// isGrant reports whether a number can be that of a grant, whether there is such a one or not.
func isGrant(i int) bool { return isFrom(0, api.GrantEvents, i) }

func isSystem(in api.NozzleSystem) bool { return in == api.NozzleFirst || in == api.NozzleSecond }

func areUnits(units int) bool { return isFrom(1, api.NozzleMany*api.NozzleUnits, units) }

func isFrom(low, high, n int) bool { return low <= n && n <= high }

func all[T any](list []T, right func(T) bool) bool {
	return !slices.ContainsFunc(list, func(x T) bool { return !right(x) })
}
