package level

import "quinaria/api"

// Takes returns which sight should be taken, and its worst width.
func Takes(s api.LevelSurvey, from, to int, tries []api.LevelTry) (int, int, api.Errno) {
	if Check(s) != api.OK || !isStation(s, from) || !isStation(s, to) || !areTries(s, tries) {
		return 0, 0, api.ErrArg
	}
	m, possible := measure(s)
	if !possible {
		return 0, 0, api.ErrRule
	}
	if !m.joined(from, to) {
		return 0, 0, api.ErrNone
	}
	var widths []rated
	for i, x := range tries {
		widths = append(widths, rated{i, m.worstWidth(from, to, x)})
	}
	right, _ := best(widths, isLess)
	return right.number, right.worth, api.OK
}

func areTries(s api.LevelSurvey, tries []api.LevelTry) bool {
	if !isFrom(1, api.LevelTries, len(tries)) {
		return false
	}
	for _, x := range tries {
		if !isDefined(s, try(x)) {
			return false
		}
	}
	return true
}

// worstWidth returns the worst width of a try, for two stations that are joined.
func (m measured) worstWidth(from, to int, x api.LevelTry) int {
	if !m.joined(x.From, x.To) {
		// Whatever is read then, it narrows nothing.
		return m.width(from, to)
	}
	rise := m.rise(x.From, x.To)
	least, most := max(-api.LevelRise, rise.Low-x.Off), min(api.LevelRise, rise.High+x.Off)
	if least > most {
		return m.width(from, to)
	}
	worst := 0
	for read := least; read <= most; read++ {
		taken := api.LevelSight{From: x.From, To: x.To, Rise: read, Off: x.Off}
		narrowed, _ := m.within(boundOf(taken))
		worst = max(worst, narrowed.width(from, to))
	}
	return worst
}

// Drops returns the fewest sights without which a survey is possible.
func Drops(s api.LevelSurvey) ([]int, api.Errno) {
	if Check(s) != api.OK {
		return nil, api.ErrArg
	}
	for count := range len(s.Sights) {
		if dropped, found := drop(s, count); found {
			return dropped, api.OK
		}
	}
	return nil, api.OK
}

// drop returns the first list of at most so many sights without which a survey
// is possible. Lists with a sight come before those as long that skip it, so
// that each sight is dropped first, and kept only then.
func drop(s api.LevelSurvey, count int) (dropped []int, found bool) {
	var goOn func(m measured, next int) bool
	goOn = func(m measured, next int) bool {
		if next == len(s.Sights) {
			return true
		}
		if len(dropped) < count {
			dropped = append(dropped, next)
			if goOn(m, next+1) {
				return true
			}
			dropped = dropped[:len(dropped)-1]
		}
		narrowed, possible := m.within(boundOf(s.Sights[next]))
		return possible && goOn(narrowed, next+1)
	}
	found = goOn(unmeasured(s), 0)
	return dropped, found
}

// Blames returns all sights without one of which a survey is possible.
func Blames(s api.LevelSurvey) ([]int, api.Errno) {
	if Check(s) != api.OK {
		return nil, api.ErrArg
	}
	var blamed []int
	for i := range s.Sights {
		if _, possible := measure(without(s, i)); possible {
			blamed = append(blamed, i)
		}
	}
	return blamed, api.OK
}

// without returns a survey without one of its sights.
func without(s api.LevelSurvey, sight int) api.LevelSurvey {
	rest := api.LevelSurvey{Stations: s.Stations}
	for i, x := range s.Sights {
		if i != sight {
			rest.Sights = append(rest.Sights, x)
		}
	}
	return rest
}
