package grant_test

import (
	"math/rand/v2"
	"slices"
	"testing"

	"quinaria/api"
	"quinaria/grant"
	"quinaria/nozzle"
)

// lookAt returns what functions of a day return of a register.
func lookAt(t *testing.T, b api.GrantBook, day int) (x seen) {
	t.Helper()
	var errors [5]api.Errno
	free := 0
	x.states, errors[0] = grant.States(b, day)
	x.owners, errors[1] = grant.Estates(b, day)
	x.granted, free, errors[2] = grant.Water(b, day)
	x.waiting, errors[3] = grant.Waiting(b, day)
	x.fell, errors[4] = grant.Fell(b, 0, day)
	if errors != [5]api.Errno{} || x.granted+free != b.Supply || free < 0 {
		t.Error(b, day, errors, x.granted, free)
	}
	return x
}

// isSame reports whether two days are the same, but for the days on which grants fell back.
func isSame(x, y seen) bool {
	return slices.Equal(x.states, y.states) && slices.Equal(x.owners, y.owners) && x.granted == y.granted && slices.Equal(x.waiting, y.waiting) && slices.Equal(x.fell, y.fell)
}

// P6.2 to P6.4: all days of registers are as in the office.
func TestAllDays(t *testing.T) {
	r := rand.New(rand.NewPCG(6, 2))
	found := map[string]int{}
	for range 400 {
		b := someBook(r, 12, 0)
		days, _ := follow(b, lastOf(b))
		for day, want := range days {
			y := lookAt(t, b, day)
			if !isSame(y, want) {
				t.Fatal(b, day, y, want)
			}
			count(found, want)
		}
		for range 5 {
			from := r.IntN(len(days))
			to := from + r.IntN(len(days)-from)
			var fell []int
			for i, day := range days[to].fellDays {
				if day >= from {
					fell = append(fell, days[to].fell[i])
				}
			}
			if y, e := grant.Fell(b, from, to); !slices.Equal(y, fell) || e != api.OK {
				t.Error(b, from, to, y, e, fell)
			}
		}
	}
	for _, word := range []string{"open", "ended", "estate", "waiting", "joined", "two ended", "two open"} {
		if found[word] < 200 {
			t.Error("too few of a kind", word, found)
		}
	}
}

// count counts what there is on a day.
func count(found map[string]int, x seen) {
	opened, finished := 0, 0
	for _, y := range x.states {
		switch {
		case y.Is == open:
			opened++
		case y.Is == ended:
			finished++
		case y.Estate >= 0:
			found["estate"]++
		}
	}
	for word, is := range map[string]bool{"open": opened > 0, "two open": opened > 1, "ended": finished > 0, "two ended": finished > 1, "waiting": len(x.waiting) > 0, "joined": slices.Contains(x.owners, -1)} {
		if is {
			found[word]++
		}
	}
}

// P6.2, P0.6: whoever has a grant, or owns an estate, lives; and a grant has ended just if nobody has it.
func TestHoldersLive(t *testing.T) {
	r := rand.New(rand.NewPCG(6, 3))
	for range 300 {
		b := someBook(r, 12, 0)
		for _, day := range list(0, 1, lastOf(b)/2, lastOf(b)) {
			var dead []int
			for _, x := range b.Events {
				if x.Kind == api.GrantDie && x.Day <= day {
					dead = append(dead, x.Person)
				}
			}
			y := lookAt(t, b, day)
			for i, x := range y.states {
				if slices.Contains(dead, x.Person) || (x.Is == ended) != (x.Person == -1) || x.Estate >= 0 && (x.Is != stands || y.owners[x.Estate] != x.Person) {
					t.Error(b, day, i, x)
				}
				if n := len(slices.DeleteFunc(slices.Clone(y.fell), func(n int) bool { return n != i })); (x.Is == ended) != (n == 1) || n > 1 {
					t.Error(b, day, i, x, y.fell)
				}
			}
			for _, owner := range y.owners {
				if slices.Contains(dead, owner) {
					t.Error(b, day, y.owners, dead)
				}
			}
		}
	}
}

// P6.2: what comes later changes no earlier day.
func TestLaterChangesNothing(t *testing.T) {
	r := rand.New(rand.NewPCG(6, 4))
	for range 200 {
		b := someBook(r, 12, 0)
		for n, x := range b.Events {
			before := b
			before.Events = b.Events[:n]
			for _, day := range list(0, x.Day/2, x.Day-1) {
				if day >= 0 && day < x.Day && !isSame(lookAt(t, b, day), lookAt(t, before, day)) {
					t.Error(b, n, day)
				}
			}
		}
	}
}

// waterOf returns the water of units by layer 3.
func waterOf(b api.GrantBook, in api.NozzleSystem, units int) int {
	set, _ := nozzle.Set(b.Table, in, units)
	cups, _ := nozzle.Gives(b.Table, set)
	return cups
}

// P6.3, P0.6: what is granted is the water of all grants that have not ended, and the first one who waits asks for more than is free.
func TestFirstWhoWaits(t *testing.T) {
	r := rand.New(rand.NewPCG(6, 5))
	waited := 0
	for range 400 {
		b := someBook(r, 12, 0)
		for day := 0; day <= lastOf(b); day += 1 + r.IntN(3) {
			y := lookAt(t, b, day)
			granted := 0
			for _, x := range y.states {
				if x.Is != ended {
					granted += waterOf(b, x.System, x.Units)
				}
			}
			if y.granted != granted || !slices.IsSorted(y.waiting) {
				t.Error(b, day, y, granted)
			}
			if len(y.waiting) == 0 {
				continue
			}
			waited++
			if x := b.Events[y.waiting[0]]; x.Kind != api.GrantAsk || x.Day > day || waterOf(b, x.System, x.Units) <= b.Supply-granted {
				t.Error(b, day, y, granted)
			}
		}
	}
	if waited < 300 {
		t.Error("too few days on which somebody waits", waited)
	}
}

// P6.5: what a person has counts as in the office, in both systems.
func TestAllHolds(t *testing.T) {
	r := rand.New(rand.NewPCG(6, 6))
	wide := 0
	for range 200 {
		b := someBook(r, 12, 0)
		days, _ := follow(b, lastOf(b))
		for range 8 {
			day := r.IntN(len(days))
			for person := range b.Persons {
				for in := first; in <= second; in++ {
					want := days[day].held(b.Table, person, in)
					if y, e := grant.Holds(b, person, in, day); y != want || e != api.OK {
						t.Error(b, person, in, day, y, e, want)
					}
					if want.Low < want.High {
						wide++
					}
				}
			}
		}
	}
	if wide < 100 {
		t.Error("too few of which more than one number is possible", wide)
	}
}

// setsCounting returns all sets of at most six nozzles that count some units in a system.
func setsCounting(t api.NozzleTable, in api.NozzleSystem, units int) (sets [][]int) {
	var goOn func(set []int, from int)
	goOn = func(set []int, from int) {
		if n, _ := nozzle.Counts(t, in, set); n == units {
			sets = append(sets, slices.Clone(set))
		}
		for r := from; r < len(t.Rows) && len(set) < api.NozzleMany; r++ {
			goOn(append(slices.Clone(set), r), r)
		}
	}
	goOn(nil, 0)
	return sets
}

// P6.5: whichever nozzles are chosen for grants of the other system, they count within the bounds.
func TestChosenNozzles(t *testing.T) {
	r := rand.New(rand.NewPCG(6, 7))
	for range 60 {
		b := someBook(r, 12, 0)
		day := lastOf(b)
		for i, x := range lookAt(t, b, day).states {
			if x.Is != stands {
				continue
			}
			other := first + second - x.System
			alone := bookOf(list(0), attach(0, 0, x.System, x.Units))
			alone.Table, alone.Supply = b.Table, 10000
			bounds, e := grant.Holds(alone, 0, other, 0)
			if e != api.OK {
				t.Error(b, i, x, e)
			}
			for _, set := range setsCounting(b.Table, x.System, x.Units) {
				if n, _ := nozzle.Counts(b.Table, other, set); n < bounds.Low || n > bounds.High {
					t.Error(b, i, x, set, n, bounds)
				}
			}
		}
	}
}

// P6.1 to P6.5: the last days, with the longest term.
func TestLastDays(t *testing.T) {
	b := changed(bookOf(list(0), give(0, 0, first, 5), attach(0, 0, second, 8), give(35000, 1, first, 5), die(35499, 0, 2), die(35500, 1, 2), ask(36400, 3, first, 30)), func(b *api.GrantBook) { b.Term = 1000 })
	days, wrong := follow(b, 36500)
	if wrong >= 0 {
		t.Fatal(wrong)
	}
	for _, day := range list(0, 1, 34999, 35000, 35498, 35499, 35500, 36498, 36499, 36500) {
		if y := lookAt(t, b, day); !isSame(y, days[day]) {
			t.Error(day, y, days[day])
		}
	}
	if y := days[36500]; !slices.Equal(y.fell, list(0)) || y.states[2].Is != open || len(y.states) != 4 || len(days[36499].waiting) != 1 {
		t.Error(y)
	}
}

// P6.3: a table with as many rows as there can be.
func TestFullTable(t *testing.T) {
	b := ourBooks()[3]
	days, wrong := follow(changed(b, func(b *api.GrantBook) {
		for i := range b.Events {
			b.Events[i].Day = 0
		}
	}), 0)
	if y := lookAt(t, b, 36500); wrong >= 0 || !isSame(y, days[0]) || len(y.states) != 10 {
		t.Error(wrong, y, days[0])
	}
	want := days[0].held(b.Table, 2, first)
	if y, e := grant.Holds(b, 2, first, 36500); y != want || e != api.OK || want.Low == 0 {
		t.Error(y, e, want)
	}
}
