package grant_test

import (
	"slices"

	"quinaria/api"
)

// counted is what is counted of a number of units in a system: the water of
// the first set, and how much all sets count in the other system.
type counted struct {
	water int
	turn  api.Span
}

// measures returns what is counted of all units that some set of a table counts, by trying all sets.
func measures(t api.NozzleTable) map[[2]int]counted {
	known := map[[2]int]counted{}
	put := func(in api.NozzleSystem, units, water, other int) {
		x, some := known[[2]int{int(in), units}]
		if !some {
			x = counted{water, span(other, other)}
		}
		x.turn = span(min(x.turn.Low, other), max(x.turn.High, other))
		known[[2]int{int(in), units}] = x
	}
	sets := [][]int{nil}
	for range 7 {
		var longer [][]int
		for _, set := range sets {
			var sum api.NozzleRow
			from := 0
			for _, r := range set {
				sum.First, sum.Second, sum.Gives = sum.First+t.Rows[r].First, sum.Second+t.Rows[r].Second, sum.Gives+t.Rows[r].Gives
				from = r
			}
			put(first, sum.First, sum.Gives, sum.Second)
			put(second, sum.Second, sum.Gives, sum.First)
			for r := from; r < len(t.Rows); r++ {
				longer = append(longer, append(slices.Clone(set), r))
			}
		}
		sets = longer
	}
	return known
}

// paper is a grant in the office: the state of one of a person has its heir as the Person if it is open.
type paper struct {
	api.GrantState
	last int
}

// office is a register that is followed day by day, as the chapter tells it.
type office struct {
	b      api.GrantBook
	known  map[[2]int]counted
	today  int
	dead   []int
	owners []int
	papers []paper
	queue  []int
	fell   []int // grants, in the order in which they fell back
	since  []int // on which day each of them did
}

// seen is what stands on a day.
type seen struct {
	states         []api.GrantState
	owners         []int
	granted        int
	waiting        []int
	fell, fellDays []int
}

// measured keeps what was measured of tables, as many registers have the same one.
var measured = map[[4]api.NozzleRow]map[[2]int]counted{}

func measuresOf(t api.NozzleTable) map[[2]int]counted {
	if len(t.Rows) > 4 {
		return measures(t)
	}
	var rows [4]api.NozzleRow
	copy(rows[:], t.Rows)
	if measured[rows] == nil {
		measured[rows] = measures(t)
	}
	return measured[rows]
}

// follow returns what stands on each day up to one, or to the last one with an
// event if that is later, and the first event that does not go, or -1. If there
// is one, the days end before it.
func follow(b api.GrantBook, until int) (days []seen, wrong int) {
	o := office{b: b, known: measuresOf(b.Table), owners: slices.Clone(b.Owners)}
	next := 0
	for ; o.today <= until || next < len(b.Events); o.today++ {
		for i, p := range o.papers {
			if p.Is == open && o.today == p.last+1 {
				o.end(i)
				o.serve()
			}
		}
		for ; next < len(b.Events) && b.Events[next].Day == o.today; next++ {
			if !o.try(next, b.Events[next]) {
				return days, next
			}
			o.serve()
		}
		days = append(days, o.look())
	}
	return days, -1
}

func (o *office) look() seen {
	x := seen{owners: slices.Clone(o.owners), waiting: slices.Clone(o.queue), fell: slices.Clone(o.fell), fellDays: slices.Clone(o.since), granted: o.b.Supply - o.free()}
	for _, p := range o.papers {
		if p.Estate >= 0 {
			p.Person = o.owners[p.Estate]
		}
		x.states = append(x.states, p.GrantState)
	}
	return x
}

func (o *office) water(in api.NozzleSystem, units int) int {
	return o.known[[2]int{int(in), units}].water
}

func (o *office) free() int {
	free := o.b.Supply
	for _, p := range o.papers {
		if p.Is != ended {
			free -= o.water(p.System, p.Units)
		}
	}
	return free
}

func (o *office) end(i int) {
	o.papers[i].Is, o.papers[i].Person = ended, -1
	o.fell, o.since = append(o.fell, i), append(o.since, o.today)
}

func (o *office) serve() {
	for len(o.queue) > 0 {
		x := o.b.Events[o.queue[0]]
		if o.water(x.System, x.Units) > o.free() {
			return
		}
		o.papers = append(o.papers, paper{state(stands, x.Person, -1, x.System, x.Units), 0})
		o.queue = slices.Delete(o.queue, 0, 1)
	}
}

func (o *office) alive(person int) bool { return !slices.Contains(o.dead, person) }

func (o *office) stillThere(estate int) bool {
	return estate < len(o.owners) && o.owners[estate] >= 0
}

// fits reports whether there is water for a grant, and nobody who waits for it.
func (o *office) fits(x api.GrantEvent) bool {
	cups := o.water(x.System, x.Units)
	return cups > 0 && cups <= o.free() && len(o.queue) == 0
}

// try lets an event happen if it goes, and reports whether it does.
func (o *office) try(i int, x api.GrantEvent) bool {
	switch x.Kind {
	case api.GrantGive:
		if !o.alive(x.Person) || !o.fits(x) {
			return false
		}
		o.papers = append(o.papers, paper{state(stands, x.Person, -1, x.System, x.Units), 0})
	case api.GrantAttach:
		if !o.stillThere(x.Estate) || !o.fits(x) {
			return false
		}
		o.papers = append(o.papers, paper{state(stands, -1, x.Estate, x.System, x.Units), 0})
	case api.GrantDie:
		return o.tryToDie(x)
	case api.GrantSell:
		if !o.stillThere(x.Estate) || !o.alive(x.Person) || o.owners[x.Estate] == x.Person {
			return false
		}
		o.owners[x.Estate] = x.Person
	case api.GrantDivide:
		return o.tryToDivide(x)
	case api.GrantJoin:
		return o.tryToJoin(x)
	case api.GrantRenew:
		if x.Grant >= len(o.papers) || o.papers[x.Grant].Is != open || o.papers[x.Grant].Person != x.Person {
			return false
		}
		o.papers[x.Grant].Is = stands
	case api.GrantAsk:
		if !o.alive(x.Person) || o.water(x.System, x.Units) == 0 {
			return false
		}
		o.queue = append(o.queue, i)
	}
	return true
}

func (o *office) tryToDie(x api.GrantEvent) bool {
	if !o.alive(x.Person) || !o.alive(x.Other) || x.Person == x.Other {
		return false
	}
	o.dead = append(o.dead, x.Person)
	for estate, owner := range o.owners {
		if owner == x.Person {
			o.owners[estate] = x.Other
		}
	}
	var queue []int
	for _, i := range o.queue {
		if o.b.Events[i].Person != x.Person {
			queue = append(queue, i)
		}
	}
	o.queue = queue
	for i, p := range o.papers {
		if p.Is == open && p.Person == x.Person {
			o.end(i)
		}
	}
	for i, p := range o.papers {
		if p.Is == stands && p.Estate < 0 && p.Person == x.Person {
			o.papers[i].Is, o.papers[i].Person, o.papers[i].last = open, x.Other, x.Day+o.b.Term
		}
	}
	return true
}

func (o *office) tryToDivide(x api.GrantEvent) bool {
	if x.Grant >= len(o.papers) || !o.alive(x.Person) {
		return false
	}
	p := o.papers[x.Grant]
	one, other := o.water(p.System, x.Units), o.water(p.System, p.Units-x.Units)
	if p.Estate < 0 || p.Units <= x.Units || one == 0 || other == 0 || one+other > o.water(p.System, p.Units)+o.free() {
		return false
	}
	o.papers[x.Grant].Units = p.Units - x.Units
	o.papers = append(o.papers, paper{state(stands, -1, len(o.owners), p.System, x.Units), 0})
	o.owners = append(o.owners, x.Person)
	return true
}

func (o *office) tryToJoin(x api.GrantEvent) bool {
	if !o.stillThere(x.Estate) || !o.stillThere(x.Other) || x.Estate == x.Other || o.owners[x.Estate] != o.owners[x.Other] {
		return false
	}
	for i, p := range o.papers {
		if p.Estate == x.Other {
			o.papers[i].Estate = x.Estate
		}
	}
	o.owners[x.Other] = -1
	return true
}

// held returns what a person has counts in a system, at least and at most.
func (x seen) held(t api.NozzleTable, person int, in api.NozzleSystem) (sum api.Span) {
	for _, y := range x.states {
		units := span(y.Units, y.Units)
		if y.System != in {
			units = measuresOf(t)[[2]int{int(y.System), y.Units}].turn
		}
		if y.Is == stands && y.Person == person {
			sum = span(sum.Low+units.Low, sum.High+units.High)
		}
	}
	return sum
}

// hasGrant reports whether a person has a grant.
func (x seen) hasGrant(person, grant int) bool {
	return grant < len(x.states) && x.states[grant].Is == stands && x.states[grant].Person == person
}

// truthsOf returns all truths of a torn register, and the registers that they make of it.
func truthsOf(b api.GrantBook, torn []api.GrantTorn) (truths [][]int, books []api.GrantBook) {
	all := [][]int{nil}
	for _, x := range torn {
		var longer [][]int
		for _, truth := range all {
			for i := range x.Options {
				longer = append(longer, append(slices.Clone(truth), i))
			}
		}
		all = longer
	}
	for _, truth := range all {
		y := b
		for k, i := range truth {
			y = instead(y, torn[k].Event, torn[k].Options[i])
		}
		ordered := slices.IsSortedFunc(y.Events, func(x, z api.GrantEvent) int { return x.Day - z.Day })
		if ordered {
			if _, wrong := follow(y, 0); wrong < 0 {
				truths, books = append(truths, truth), append(books, y)
			}
		}
	}
	return truths, books
}
