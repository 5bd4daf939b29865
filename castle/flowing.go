package castle

import (
	"slices"

	"quinaria/api"
	"quinaria/nozzle"
)

// flowing is a castle with its outflows.
type flowing struct {
	api.CastleBasin
	// full is what each nozzle gives if the water is high enough.
	full []int
	// outflows never decrease from one height to the next one.
	outflows [api.CastleHeight + 1]int
}

// flowingOf returns a castle with its outflows.
func flowingOf(b api.CastleBasin) *flowing {
	f := &flowing{CastleBasin: b}
	for _, x := range b.Nozzles {
		cups, _ := nozzle.Gives(b.Table, []int{x.Row})
		f.full = append(f.full, cups)
	}
	f.sumUp()
	return f
}

// at returns a castle whose nozzles are at these heights.
func (f *flowing) at(heights []int) *flowing {
	g := &flowing{CastleBasin: f.CastleBasin, full: f.full}
	g.Nozzles = slices.Clone(f.Nozzles)
	for i, height := range heights {
		g.Nozzles[i].Height = height
	}
	g.sumUp()
	return g
}

// heights returns the heights of all nozzles.
func (f *flowing) heights() (heights []int) {
	for _, x := range f.Nozzles {
		heights = append(heights, x.Height)
	}
	return heights
}

// sumUp sets the outflows, which are 0 until then.
func (f *flowing) sumUp() {
	ways := [...]func(height int) int{f.byNozzles, f.overWeir}
	for height := range api.CastleHeight + 1 {
		for _, way := range ways {
			f.outflows[height] += way(height)
		}
	}
}

// byNozzles returns what all nozzles give at a height.
func (f *flowing) byNozzles(height int) (cups int) {
	for i := range f.Nozzles {
		cups = sum(cups, f.gives(i, height))
	}
	return cups
}

// overWeir returns what goes over the weir at a height.
func (f *flowing) overWeir(height int) int { return f.Spill * max(0, height-f.Weir) }

// given returns what each nozzle gives at a height.
func (f *flowing) given(height int) []int {
	given := make([]int, len(f.Nozzles))
	for i := range given {
		given[i] = f.gives(i, height)
	}
	return given
}

// gives returns what a nozzle gives at a height.
func (f *flowing) gives(i, height int) int {
	higher := max(0, height-f.Nozzles[i].Height)
	return f.full[i] * min(higher, api.CastleFull) / api.CastleFull
}

// level returns the greatest height whose outflow is not greater than some cups.
func (f *flowing) level(cups int) int {
	heights, _ := slices.BinarySearch(f.outflows[:], cups+1)
	return heights - 1
}

// shares returns what each nozzle gets of some cups, and what goes over the weir, or over the rim.
func (f *flowing) shares(cups int) (shares []int, over int) {
	level := f.level(cups)
	shares, over = f.given(level), f.overWeir(level)
	rest := cups - f.outflows[level]
	if level == api.CastleHeight {
		return shares, over + rest
	}
	for i, next := range f.given(level + 1) {
		more := min(rest, next-shares[i])
		shares[i] += more
		rest -= more
	}
	return shares, over + rest
}

// proved returns the least and the greatest number of cups whose level lies
// within a reading, or gives up if there is none.
func (f *flowing) proved(seen api.Span) api.Span {
	in := api.Span{Low: f.outflows[seen.Low], High: api.CastleFlow}
	if seen.High < api.CastleHeight {
		// With one cup more the water would stand higher than what was read.
		in.High = f.outflows[seen.High+1] - 1
	}
	if in.Low > in.High {
		panic(noCups{})
	}
	return in
}

func sum(cups ...int) int {
	total := 0
	for _, n := range cups {
		total += n
	}
	return total
}
