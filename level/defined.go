package level

import "quinaria/api"

// between is anything that goes from one station to another one.
type between interface {
	ends() (from, to int)
	// sized reports whether its other numbers are as defined.
	sized() bool
}

type sight api.LevelSight

func (x sight) ends() (int, int) { return x.From, x.To }

func (x sight) sized() bool {
	return isFrom(-api.LevelRise, api.LevelRise, x.Rise) && isFrom(0, api.LevelOff, x.Off)
}

type leg api.LevelLeg

func (x leg) ends() (int, int) { return x.From, x.To }

func (x leg) sized() bool { return isFrom(1, api.LevelLong, x.Long) }

type tunnel api.LevelTunnel

func (x tunnel) ends() (int, int) { return x.From, x.To }

func (x tunnel) sized() bool {
	return isFrom(1, api.LevelLong, x.Long) && isFrom(0, api.LevelFall, x.Fall) && isFrom(0, api.LevelErr, x.Err)
}

type try api.LevelTry

func (x try) ends() (int, int) { return x.From, x.To }

func (x try) sized() bool { return isFrom(0, api.LevelOff, x.Off) }

// isDefined reports whether something between two stations of a survey is as defined.
func isDefined(s api.LevelSurvey, x between) bool {
	from, to := x.ends()
	return isStation(s, from) && isStation(s, to) && from != to && x.sized()
}

func isStation(s api.LevelSurvey, n int) bool { return isFrom(0, s.Stations-1, n) }

func isFrom(low, high, n int) bool { return low <= n && n <= high }
