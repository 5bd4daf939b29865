package stone

import (
	"iter"
	"slices"

	"quinaria/api"
)

// reached is a line with one of its Turns, and the numbers that its stones can have then.
type reached struct {
	api.StoneLine
	turn turn
	can  []numberSet
}

// reach returns a line with a Turn, and what can be reached.
func reach(l api.StoneLine, t turn) reached {
	r := reached{l, t, make([]numberSet, len(l.Marks))}
	last := len(l.Marks) - 1
	// First those numbers from which the last stone can be reached.
	for i := last; i >= 0; i-- {
		r.can[i] = numbersThat(func(n int) bool { return r.agrees(i, n) && (i == last || r.goesOn(i, n)) })
	}
	// Then those of them that can be reached from the first stone.
	for i := range last {
		onward := r.can[i+1]
		r.can[i+1] = numbersThat(func(n int) bool { return onward.has(n, n) && r.comesFrom(i, n) })
	}
	return r
}

// agrees reports whether what is left of a stone agrees with a number of it.
func (r reached) agrees(stone, number int) bool {
	return r.turn.agrees(r.Marks[stone], number)
}

// steps returns by how much more the number behind a gap is than the one before it.
func (r reached) steps(gap int) api.Span {
	x := r.Gaps[gap]
	// The longest steps must reach the Low of a gap, the shortest ones not go beyond its High.
	return api.Span{Low: (x.Low + r.Most - 1) / r.Most, High: x.High / r.Least}
}

// goesOn reports whether the next stone can have a number if a stone has this one.
func (r reached) goesOn(stone, number int) bool {
	x := r.steps(stone)
	return r.can[stone+1].has(number+x.Low, number+x.High)
}

// comesFrom reports whether a stone can have a number if the next stone has this one.
func (r reached) comesFrom(stone, number int) bool {
	x := r.steps(stone)
	return r.can[stone].has(number-x.High, number-x.Low)
}

// fits reports whether numbers fit a line with its Turn.
func (r reached) fits(numbers []int) bool {
	for i, n := range numbers {
		if !r.agrees(i, n) {
			return false
		}
		if i == 0 {
			continue
		}
		if x := r.steps(i - 1); !isFrom(x.Low, x.High, n-numbers[i-1]) {
			return false
		}
	}
	return true
}

// turnsOf goes through a line with each Turn with which it has a numbering.
func turnsOf(l api.StoneLine) iter.Seq[reached] {
	return func(yield func(reached) bool) {
		for t := l.Turn.Low; t <= l.Turn.High; t++ {
			r := reach(l, turn(t))
			if r.can[0].has(1, api.StoneNumber) && !yield(r) {
				return
			}
		}
	}
}

func isPossible(l api.StoneLine) bool {
	for range turnsOf(l) {
		return true
	}
	return false
}

// turnsOrRule returns a line with all such Turns, or the error of a line that has none.
func turnsOrRule(l api.StoneLine) ([]reached, api.Errno) {
	if !isLine(l) {
		return nil, api.ErrArg
	}
	turns := slices.Collect(turnsOf(l))
	if len(turns) == 0 {
		return nil, api.ErrRule
	}
	return turns, api.OK
}

// spanOf returns the least and the greatest number of a stone.
func spanOf(turns []reached, stone int) api.Span {
	span := api.Span{Low: api.StoneNumber, High: 1}
	for _, r := range turns {
		for n := range r.can[stone].from(1, api.StoneNumber) {
			span = api.Span{Low: min(span.Low, n), High: max(span.High, n)}
		}
	}
	return span
}

// tooMany is what a search for numberings gives up with: there are more than are listed.
type tooMany struct{}

// row is the numbers of all stones, and a 0 for each further one that there could be.
type row [api.StoneStones]int

// numberingsOf returns all numberings, or gives up if there are too many.
func numberingsOf(turns []reached) (all [][]int) {
	found := map[row]bool{}
	for _, r := range turns {
		r.find(found)
	}
	for x := range found {
		all = append(all, slices.Clone(x[:len(turns[0].Marks)]))
	}
	slices.SortFunc(all, slices.Compare)
	return all
}

// find notes all numberings of a line with its Turn.
func (r reached) find(found map[row]bool) {
	var x row
	var goOn func(stone int)
	goOn = func(stone int) {
		if stone == len(r.Marks) {
			found[x] = true
			must(len(found) <= api.StoneList, tooMany{})
			return
		}
		for n := range r.after(x, stone) {
			x[stone] = n
			goOn(stone + 1)
		}
	}
	goOn(0)
}

// after goes through the numbers that a stone can have after those of a row before it.
func (r reached) after(x row, stone int) iter.Seq[int] {
	if stone == 0 {
		return r.can[0].from(1, api.StoneNumber)
	}
	before, steps := x[stone-1], r.steps(stone-1)
	return r.can[stone].from(before+steps.Low, before+steps.High)
}

// placesOf returns how many places a line has.
func placesOf(l api.StoneLine) int { return 2*len(l.Marks) + 1 }

// placesFor returns all places that a number can have.
func placesFor(turns []reached, number int) (places []int) {
	for place := range placesOf(turns[0].StoneLine) {
		if slices.ContainsFunc(turns, func(r reached) bool { return r.canBeAt(place, number) }) {
			places = append(places, place)
		}
	}
	return places
}

// canBeAt reports whether a number can have a place.
func (r reached) canBeAt(place, number int) bool {
	stone := place / 2
	switch {
	case place%2 == 1:
		return r.can[stone].has(number, number)
	case stone == 0:
		return r.can[0].has(number+1, api.StoneNumber)
	case stone == len(r.Marks):
		return r.can[stone-1].has(1, number-1)
	}
	return r.canBeBetween(stone-1, number)
}

// canBeBetween reports whether a number can have the place behind a stone, and before the next one.
func (r reached) canBeBetween(stone, number int) bool {
	x := r.steps(stone)
	for before := range r.can[stone].from(1, number-1) {
		if r.can[stone+1].has(max(before+x.Low, number+1), before+x.High) {
			return true
		}
	}
	return false
}
