package castle

import (
	"sort"

	"quinaria/api"
)

// weirFeed is the Nozzle of a feed that takes what goes over a weir.
const weirFeed = -1

// linked is the basins of a chain with their outflows, and its feeds.
type linked struct {
	basins []*flowing
	feeds  []api.CastleFeed
}

func linkedOf(c api.CastleChain) linked {
	l := linked{feeds: c.Feeds}
	for _, b := range c.Basins {
		l.basins = append(l.basins, flowingOf(b))
	}
	return l
}

// flow returns the shares in each basin for some cups that come into the first one, and what goes over each weir.
func (l linked) flow(cups int) (shares [][]int, overs []int) {
	in := cups
	for k, f := range l.basins {
		if k > 0 {
			in = fed(l.feeds[k-1], shares, overs)
		}
		own, over := f.shares(in)
		shares, overs = append(shares, own), append(overs, over)
	}
	return shares, overs
}

// fed returns what goes through a feed.
func fed(x api.CastleFeed, shares [][]int, overs []int) int {
	if x.Nozzle == weirFeed {
		return overs[x.Basin]
	}
	return shares[x.Basin][x.Nozzle]
}

// Chain returns the error of a chain.
func Chain(c api.CastleChain) api.Errno {
	if !isChain(c) {
		return api.ErrArg
	}
	return api.OK
}

// Flow returns the shares of all basins of a chain, and what goes over their weirs.
func Flow(c api.CastleChain, cups int) ([][]int, []int, api.Errno) {
	if !isChain(c) || !areCups(cups) {
		return nil, nil, api.ErrArg
	}
	shares, overs := linkedOf(c).flow(cups)
	return shares, overs, api.OK
}

// Least returns the least cups with which a nozzle gets its claim.
func Least(c api.CastleChain, basin, nozzle, claim int) (int, api.Errno) {
	if !isChain(c) || !isFrom(0, len(c.Basins)-1, basin) || !isNozzle(c.Basins[basin], nozzle) || !areCups(claim) {
		return 0, api.ErrArg
	}
	l := linkedOf(c)
	// With more cups no share is less, so that all from the least ones on are enough.
	least := sort.Search(api.CastleFlow+1, func(cups int) bool {
		shares, _ := l.flow(cups)
		return shares[basin][nozzle] >= claim
	})
	if !areCups(least) {
		return 0, api.ErrNone
	}
	return least, api.OK
}
