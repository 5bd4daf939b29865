package castle

import (
	"slices"

	"quinaria/api"
	"quinaria/nozzle"
)

func isCastle(b api.CastleBasin) bool {
	return nozzle.Check(b.Table) == api.OK && isFrom(1, api.CastleNozzles, len(b.Nozzles)) &&
		all(b.Nozzles, func(x api.CastleNozzle) bool { return isPlaced(b.Table, x) }) &&
		isHeight(b.Weir) && isFrom(0, api.CastleSpill, b.Spill)
}

// isPlaced reports whether a nozzle of a size of a table is as defined.
func isPlaced(t api.NozzleTable, x api.CastleNozzle) bool {
	return isFrom(0, len(t.Rows)-1, x.Row) && isHeight(x.Height)
}

// isNozzle reports whether a castle has a nozzle with a number.
func isNozzle(b api.CastleBasin, i int) bool { return isFrom(0, len(b.Nozzles)-1, i) }

func isHeight(height int) bool { return isFrom(0, api.CastleHeight, height) }

func areCups(cups int) bool { return isFrom(0, api.CastleFlow, cups) }

func isChange(b api.CastleBasin, x api.CastleChange) bool {
	return isNozzle(b, x.Nozzle) && isHeight(x.Height)
}

func areClaims(b api.CastleBasin, claims []int) bool {
	return len(claims) == len(b.Nozzles) && all(claims, areCups)
}

func areCounts(b api.CastleBasin, counts []api.Span) bool {
	return len(counts) == len(b.Nozzles) && all(counts, func(x api.Span) bool { return isSpan(api.CastleFlow, x) })
}

func isChain(c api.CastleChain) bool {
	return isFrom(1, api.CastleBasins, len(c.Basins)) && all(c.Basins, isCastle) &&
		len(c.Feeds) == len(c.Basins)-1 && areFeeds(c)
}

// areFeeds reports whether each feed is of a basin before the one that it feeds, and none is there twice.
func areFeeds(c api.CastleChain) bool {
	met := map[api.CastleFeed]bool{}
	for k, x := range c.Feeds {
		if met[x] || !isFrom(0, k, x.Basin) || x.Nozzle != weirFeed && !isNozzle(c.Basins[x.Basin], x.Nozzle) {
			return false
		}
		met[x] = true
	}
	return true
}

// isSpan reports whether a span is one from 0 to a limit.
func isSpan(limit int, x api.Span) bool {
	return isFrom(0, limit, x.Low) && isFrom(x.Low, limit, x.High)
}

func isWithin(x api.Span, n int) bool { return isFrom(x.Low, x.High, n) }

func isFrom(low, high, n int) bool { return low <= n && n <= high }

func all[T any](list []T, right func(T) bool) bool {
	return !slices.ContainsFunc(list, func(x T) bool { return !right(x) })
}
