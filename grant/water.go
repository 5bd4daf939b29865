package grant

import (
	"quinaria/api"
	"quinaria/nozzle"
)

// systems is how many systems there are.
const systems = 2

// amount is some units in a system.
type amount struct {
	system api.NozzleSystem
	units  int
}

// first returns how many units the first system counts of an amount, at least and at most.
func (x amount) first(t api.NozzleTable) api.Span { return x.turned(t, api.NozzleFirst) }

// second returns how many units the second system counts of an amount, at least and at most.
func (x amount) second(t api.NozzleTable) api.Span { return x.turned(t, api.NozzleSecond) }

// counted returns how many units a system counts of an amount, at least and at most.
func (x amount) counted(t api.NozzleTable, in api.NozzleSystem) api.Span {
	counts := [systems]func(amount, api.NozzleTable) api.Span{amount.first, amount.second}
	return counts[in-api.NozzleFirst](x, t)
}

// turned returns the units of an amount in its own system, and between which bounds they are in the other one.
func (x amount) turned(t api.NozzleTable, in api.NozzleSystem) api.Span {
	if in == x.system {
		return api.Span{Low: x.units, High: x.units}
	}
	units, _ := nozzle.Turn(t, x.system, x.units)
	return units
}

// waters is the water of all amounts of which it was asked for one table, as it
// takes long to find; 0 for those that have none.
type waters map[amount]int

// of returns the water of an amount, or 0 if it has none.
func (w waters) of(t api.NozzleTable, x amount) int {
	cups, known := w[x]
	if !known {
		set, e := nozzle.Set(t, x.system, x.units)
		if e == api.OK {
			cups, _ = nozzle.Gives(t, set)
		}
		w[x] = cups
	}
	return cups
}
