package castle_test

import (
	"math/rand/v2"
	"slices"

	"quinaria/api"
)

const huge = int(^uint(0) >> 1)

func span(low, high int) api.Span { return api.Span{Low: low, High: high} }

// spans returns spans with a Low and a High, one after the other.
func spans(n ...int) []api.Span {
	var out []api.Span
	for i := 0; i < len(n); i += 2 {
		out = append(out, span(n[i], n[i+1]))
	}
	return out
}

func list(n ...int) []int { return n }

func lists(x ...[]int) [][]int { return x }

func row(first, second, gives int) api.NozzleRow {
	return api.NozzleRow{First: first, Second: second, Gives: gives}
}

func table(rows ...api.NozzleRow) api.NozzleTable { return api.NozzleTable{Rows: rows, Draw: 50} }

// tableOf returns a table whose rows give so much.
func tableOf(gives ...int) api.NozzleTable {
	var rows []api.NozzleRow
	for _, n := range gives {
		rows = append(rows, row(1, 1, n))
	}
	return table(rows...)
}

// basin returns a castle whose nozzles have a row and a height, one after the other.
func basin(t api.NozzleTable, weir, spill int, n ...int) api.CastleBasin {
	b := api.CastleBasin{Table: t, Weir: weir, Spill: spill}
	for i := 0; i < len(n); i += 2 {
		b.Nozzles = append(b.Nozzles, api.CastleNozzle{Row: n[i], Height: n[i+1]})
	}
	return b
}

func change(nozzle, height int) api.CastleChange {
	return api.CastleChange{Nozzle: nozzle, Height: height}
}

// changes returns changes of a nozzle to a height, one after the other.
func changes(n ...int) []api.CastleChange {
	var out []api.CastleChange
	for i := 0; i < len(n); i += 2 {
		out = append(out, change(n[i], n[i+1]))
	}
	return out
}

// feeds returns feeds from a basin and a nozzle, one after the other.
func feeds(n ...int) []api.CastleFeed {
	var out []api.CastleFeed
	for i := 0; i < len(n); i += 2 {
		out = append(out, api.CastleFeed{Basin: n[i], Nozzle: n[i+1]})
	}
	return out
}

func chain(feeds []api.CastleFeed, basins ...api.CastleBasin) api.CastleChain {
	return api.CastleChain{Basins: basins, Feeds: feeds}
}

// tableT is the table t of the chapter of layer 3.
func tableT() api.NozzleTable { return table(row(5, 4, 10), row(10, 8, 20), row(20, 15, 45)) }

// castleA is the chapter's castle a.
func castleA() api.CastleBasin { return basin(tableT(), 20, 5, 0, 10, 1, 10, 2, 12) }

// castleB is the chapter's castle b.
func castleB() api.CastleBasin { return basin(tableT(), 8, 100, 1, 5, 0, 5) }

// chainC is the chapter's chain c.
func chainC() api.CastleChain { return chain(feeds(0, 2), castleA(), castleB()) }

// fullCastle is a castle with as much of everything as there can be, at the least heights.
func fullCastle() api.CastleBasin {
	t := table(slices.Repeat([]api.NozzleRow{row(60, 60, 1000)}, 12)...)
	return basin(t, 0, 100, 0, 0, 11, 0, 1, 0, 2, 0, 3, 0, 4, 0)
}

// leastCastle is a castle with as little of everything as there can be.
func leastCastle() api.CastleBasin { return basin(tableOf(1), 0, 0, 0, 0) }

// highCastle is a castle out of which nothing ever goes but over the rim.
func highCastle() api.CastleBasin { return basin(tableOf(7), 40, 100, 0, 40, 0, 40) }

// fullChain is a chain of as many basins as there can be.
func fullChain() api.CastleChain {
	return chain(feeds(0, -1, 0, 5, 2, 0), fullCastle(), castleA(), fullCastle(), castleB())
}

// ourCastles are castles of all kinds.
func ourCastles() []api.CastleBasin {
	return []api.CastleBasin{castleA(), castleB(), fullCastle(), leastCastle(), highCastle(), basin(tableOf(10), 8, 1, 0, 5)}
}

// wrongTables are tables that are not as defined.
func wrongTables() []api.NozzleTable {
	draw := tableT()
	draw.Draw = 101
	return []api.NozzleTable{
		{}, {Rows: []api.NozzleRow{}}, draw, table(slices.Repeat([]api.NozzleRow{row(1, 1, 1)}, 13)...),
		table(row(0, 1, 1)), table(row(1, 61, 1)), table(row(1, 1, 0)), table(row(1, 1, 1001)), table(row(1, 1, 1), row(-1, 1, 1)),
	}
}

// wrongCastles are castles each of which is not as defined in one way.
func wrongCastles() []api.CastleBasin {
	t := tableT()
	wrong := []api.CastleBasin{
		{}, basin(t, 20, 5), {Table: t, Nozzles: []api.CastleNozzle{}, Weir: 1, Spill: 1}, basin(t, 20, 5, 0, 1, 0, 2, 0, 3, 0, 4, 0, 5, 0, 6, 0, 7),
		basin(t, 41, 5, 0, 1), basin(t, 20, 101, 0, 1), basin(t, 20, 5, 3, 1), basin(t, 20, 5, 0, 41), basin(t, 20, 5, 0, 1, 0, 41), basin(t, 20, 5, 0, 1, 3, 1),
	}
	for _, n := range list(-1, huge, -huge-1) {
		wrong = append(wrong, basin(t, n, 5, 0, 1), basin(t, 20, n, 0, 1), basin(t, 20, 5, n, 1), basin(t, 20, 5, 0, n), basin(t, 20, 5, 2, 1, 0, n))
	}
	for _, x := range wrongTables() {
		wrong = append(wrong, basin(x, 20, 5, 0, 1))
	}
	return wrong
}

// wrongCups are numbers that are no cups.
func wrongCups() []int { return list(-1, 10001, huge, -huge-1) }

// wrongHeights are numbers that are no heights.
func wrongHeights() []int { return list(-1, 41, huge, -huge-1) }

// wrongSpans are spans that do not lie from 0 to a limit.
func wrongSpans(limit int) []api.Span {
	return spans(-1, 5, 6, 5, -2, -1, 0, limit+1, limit+1, limit+1, -huge-1, huge, huge, huge, huge, -huge-1, limit, 0)
}

// wrongChains are chains each of which is not as defined in one way.
func wrongChains() []api.CastleChain {
	a, b := castleA(), castleB()
	wrong := []api.CastleChain{
		{}, chain(nil), chain(nil, a, b), chain(feeds(0, 0), a), chain(feeds(0, 0, 0, 1), a, b), chain(feeds(0, 0), a, b, b), chain(feeds(0, 0)),
		chain(feeds(0, 0, 0, 1, 0, 2, 1, 0), a, b, b, b, b),
		chain(feeds(1, 0), a, b), chain(feeds(2, 0), a, b), chain(feeds(0, 0, 2, 0), a, b, b), chain(feeds(0, 0, 0, 0), a, b, b), chain(feeds(0, -1, 0, -1), a, b, b),
		chain(feeds(0, 0, 1, 1, 1, 1), a, b, b, b), chain(feeds(0, 0, 1, -1, 0, 0), a, b, b, b),
		chain(feeds(0, 3), a, b), chain(feeds(0, -2), a, b), chain(feeds(0, 0, 1, 2), a, b, b), chain(feeds(-1, 0), a, b), chain(feeds(-1, -1), a, b),
		chain(feeds(0, huge), a, b), chain(feeds(0, -huge-1), a, b), chain(feeds(huge, 0), a, b), chain(feeds(-huge-1, 0), a, b), chain(feeds(0, 0, huge, -1), a, b, b),
	}
	for _, x := range wrongCastles() {
		wrong = append(wrong, chain(nil, x), chain(feeds(0, 0), a, x), chain(feeds(0, -1), x, a))
	}
	return wrong
}

// givesOf returns what a nozzle gives at a height, as the chapter defines it.
func givesOf(b api.CastleBasin, i, height int) int {
	x := b.Nozzles[i]
	switch gives := b.Table.Rows[x.Row].Gives; {
	case height <= x.Height:
		return 0
	case height >= x.Height+5:
		return gives
	default:
		return gives * (height - x.Height) / 5
	}
}

// overOf returns what goes over the weir at a height, as the chapter defines it.
func overOf(b api.CastleBasin, height int) int {
	if height <= b.Weir {
		return 0
	}
	return b.Spill * (height - b.Weir)
}

// outflowOf returns the outflow at a height, as the chapter defines it.
func outflowOf(b api.CastleBasin, height int) int {
	cups := overOf(b, height)
	for i := range b.Nozzles {
		cups += givesOf(b, i, height)
	}
	return cups
}

// levelOf returns the level for some cups by looking at all heights from the rim down.
func levelOf(b api.CastleBasin, cups int) int {
	for height := 40; ; height-- {
		if outflowOf(b, height) <= cups {
			return height
		}
	}
}

// sharesOf returns the shares for some cups, and what goes over the weir, by giving away the rest cup by cup.
func sharesOf(b api.CastleBasin, cups int) (shares []int, over int) {
	level := levelOf(b, cups)
	for i := range b.Nozzles {
		shares = append(shares, givesOf(b, i, level))
	}
	over = overOf(b, level)
cups:
	for range cups - outflowOf(b, level) {
		if level < 40 {
			for i, n := range shares {
				if n < givesOf(b, i, level+1) {
					shares[i]++
					continue cups
				}
			}
		}
		over++
	}
	return shares, over
}

// heightsOf returns the heights of all nozzles.
func heightsOf(b api.CastleBasin) (heights []int) {
	for _, x := range b.Nozzles {
		heights = append(heights, x.Height)
	}
	return heights
}

// withHeights returns a castle whose nozzles are at these heights.
func withHeights(b api.CastleBasin, heights []int) api.CastleBasin {
	b.Nozzles = slices.Clone(b.Nozzles)
	for i, height := range heights {
		b.Nozzles[i].Height = height
	}
	return b
}

// withChange returns a castle with a change.
func withChange(b api.CastleBasin, x api.CastleChange) api.CastleBasin {
	heights := heightsOf(b)
	heights[x.Nozzle] = x.Height
	return withHeights(b, heights)
}

// someCastle returns a castle with up to so many nozzles, whose heights are often near each other.
func someCastle(r *rand.Rand, nozzles int) api.CastleBasin {
	most := []int{5, 60, 1000}[r.IntN(3)]
	var gives []int
	for range 1 + r.IntN(12) {
		gives = append(gives, 1+r.IntN(most))
	}
	b := basin(tableOf(gives...), r.IntN(41), []int{0, 1, r.IntN(101), 100}[r.IntN(4)])
	from, over := r.IntN(41), []int{1, 4, 41}[r.IntN(3)]
	for range 1 + r.IntN(nozzles) {
		b.Nozzles = append(b.Nozzles, api.CastleNozzle{Row: r.IntN(len(gives)), Height: min(40, from+r.IntN(over))})
	}
	return b
}

// someCups returns a number of cups that is often near what goes out of a castle.
func someCups(r *rand.Rand, b api.CastleBasin) int {
	if r.IntN(8) == 0 {
		return r.IntN(10001)
	}
	return min(10000, outflowOf(b, r.IntN(41))+r.IntN(12))
}

// someSpan returns a span of cups, Low not greater than High.
func someSpan(r *rand.Rand, b api.CastleBasin) api.Span {
	m, n := someCups(r, b), someCups(r, b)
	return span(min(m, n), max(m, n))
}

// someChange returns a change for a castle.
func someChange(r *rand.Rand, b api.CastleBasin) api.CastleChange {
	i := r.IntN(len(b.Nozzles))
	if r.IntN(2) == 0 {
		return change(i, r.IntN(41))
	}
	return change(i, min(40, max(0, b.Nozzles[i].Height-3+r.IntN(7))))
}

// someChain returns a chain whose feeds are all different.
func someChain(r *rand.Rand) api.CastleChain {
	c := chain(nil, someCastle(r, 6))
	for range r.IntN(4) {
		from := r.IntN(len(c.Basins))
		x := api.CastleFeed{Basin: from, Nozzle: r.IntN(len(c.Basins[from].Nozzles)+1) - 1}
		if !slices.Contains(c.Feeds, x) {
			c.Basins, c.Feeds = append(c.Basins, someCastle(r, 6)), append(c.Feeds, x)
		}
	}
	return c
}

// sameCastle reports whether two castles are the same value.
func sameCastle(a, b api.CastleBasin) bool {
	return a.Weir == b.Weir && a.Spill == b.Spill && slices.Equal(a.Nozzles, b.Nozzles) &&
		a.Table.Draw == b.Table.Draw && slices.Equal(a.Table.Rows, b.Table.Rows)
}

// isNone reports whether a castle is the zero value.
func isNone(b api.CastleBasin) bool { return sameCastle(b, api.CastleBasin{}) }
