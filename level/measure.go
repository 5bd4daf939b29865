package level

import "quinaria/api"

// unjoined stands for the greatest rise between stations that are not joined:
// no sum of rises comes near it, and two of it are an int of 32 bits still.
const unjoined = 1 << 29

// measured is a survey with its greatest rises: by most[a][b], at most, the
// station b is higher than the station a.
type measured struct {
	api.LevelSurvey
	most [api.LevelStations][api.LevelStations]int
}

// bound is what somebody knows of the rise from one station to another one.
type bound struct {
	from, to int
	rise     api.Span
}

// contradiction is what a measurement gives up with: with all that was known
// before, the station to cannot be as little higher than the station from.
type contradiction struct{ from, to int }

// boundOf returns what a sight tells.
func boundOf(x api.LevelSight) bound {
	return bound{x.From, x.To, api.Span{Low: x.Rise - x.Off, High: x.Rise + x.Off}}
}

// unmeasured returns a survey of which no sight is looked at yet.
func unmeasured(s api.LevelSurvey) measured {
	m := measured{LevelSurvey: s}
	for a := range m.Stations {
		for b := range m.Stations {
			if a != b {
				m.most[a][b] = unjoined
			}
		}
	}
	return m
}

// measure returns a survey with its greatest rises, and whether it is possible.
func measure(s api.LevelSurvey) (measured, bool) {
	bounds := make([]bound, len(s.Sights))
	for i, x := range s.Sights {
		bounds[i] = boundOf(x)
	}
	return unmeasured(s).within(bounds...)
}

// within returns what is measured if some bounds are true too, and whether they can be.
func (m measured) within(bounds ...bound) (narrowed measured, possible bool) {
	defer func() {
		if _, is := recover().(contradiction); is {
			narrowed, possible = measured{}, false
		}
	}()
	for _, b := range bounds {
		m.limit(b.from, b.to, b.rise.High)
		m.limit(b.to, b.from, -b.rise.Low)
	}
	return m, true
}

// limit takes it as true that the station to is at most so much higher than the station from.
func (m *measured) limit(from, to, most int) {
	if sum(m.most[to][from], most) < 0 {
		panic(contradiction{from, to})
	}
	before := m.most
	for a := range m.Stations {
		for b := range m.Stations {
			if before[a][from] < unjoined && before[to][b] < unjoined {
				m.most[a][b] = min(before[a][b], sum(before[a][from], most, before[to][b]))
			}
		}
	}
}

func (m measured) joined(a, b int) bool { return m.most[a][b] < unjoined }

// low returns the least rise from one station to another one.
func (m measured) low(from, to int) int { return -m.most[to][from] }

// high returns the greatest rise from one station to another one.
func (m measured) high(from, to int) int { return m.most[from][to] }

func (m measured) rise(from, to int) api.Span {
	return api.Span{Low: m.low(from, to), High: m.high(from, to)}
}

// width returns by how much the greatest rise exceeds the least one.
func (m measured) width(from, to int) int { return m.high(from, to) - m.low(from, to) }

// fromBases returns one end of the rise to each station from its base.
func (m measured) fromBases(end func(measured, int, int) int) []int {
	rises := make([]int, m.Stations)
stations:
	for at := range m.Stations {
		for base := range m.Stations {
			if m.joined(base, at) {
				rises[at] = end(m, base, at)
				continue stations
			}
		}
	}
	return rises
}

func sum(rises ...int) int {
	total := 0
	for _, rise := range rises {
		total += rise
	}
	return total
}

// best returns the first thing of a list than which no other one is better, and whether there is one.
func best[T any](list []T, better func(a, b T) bool) (first T, some bool) {
	for i, x := range list {
		if i == 0 || better(x, first) {
			first = x
		}
	}
	return first, len(list) > 0
}
