package level

import "quinaria/api"

// Falls returns whether a leg falls rightly.
func Falls(s api.LevelSurvey, leg api.LevelLeg, least, most int) (api.LevelWord, api.Errno) {
	return Carries(s, []api.LevelLeg{leg}, least, most)
}

// Carries returns whether legs all fall rightly.
func Carries(s api.LevelSurvey, legs []api.LevelLeg, least, most int) (api.LevelWord, api.Errno) {
	if Check(s) != api.OK || !areLegs(s, legs) || !isFrom(0, most, least) || most > api.LevelFall {
		return 0, api.ErrArg
	}
	m, possible := measure(s)
	if !possible {
		return 0, api.ErrRule
	}
	var wanted []bound
	for _, x := range legs {
		if !m.joined(x.From, x.To) {
			return 0, api.ErrNone
		}
		wanted = append(wanted, wantedOf(x, least, most))
	}
	return m.word(wanted), api.OK
}

func areLegs(s api.LevelSurvey, legs []api.LevelLeg) bool {
	if !isFrom(1, api.LevelLegs, len(legs)) {
		return false
	}
	for _, x := range legs {
		if !isDefined(s, leg(x)) {
			return false
		}
	}
	return true
}

// wantedOf returns the bound within which a leg falls rightly: what falls from
// one station to another one rises back to it.
func wantedOf(x api.LevelLeg, least, most int) bound {
	return bound{x.To, x.From, api.Span{Low: x.Long * least, High: x.Long * most}}
}

// word returns whether all bounds are true at once.
func (m measured) word(wanted []bound) api.LevelWord {
	if _, possible := m.within(wanted...); !possible {
		return api.LevelNever
	}
	for _, b := range wanted {
		rise := m.rise(b.from, b.to)
		if rise.Low < b.rise.Low || rise.High > b.rise.High {
			return api.LevelMay
		}
	}
	return api.LevelSurely
}

// Meets returns within which bounds the heads of a tunnel meet.
func Meets(s api.LevelSurvey, t api.LevelTunnel) (api.Span, api.Errno) {
	m, e := measureTunnel(s, t)
	if e != api.OK {
		return api.Span{}, e
	}
	return m.meets(t), api.OK
}

// Drives returns the best Fall for a tunnel, and its bound.
func Drives(s api.LevelSurvey, t api.LevelTunnel) (int, int, api.Errno) {
	m, e := measureTunnel(s, t)
	if e != api.OK {
		return 0, 0, e
	}
	var falls []rated
	for fall := range api.LevelFall + 1 {
		t.Fall = fall
		meet := m.meets(t)
		falls = append(falls, rated{fall, max(-meet.Low, meet.High)})
	}
	right, _ := best(falls, isLess)
	return right.number, right.worth, api.OK
}

// measureTunnel returns a survey with its greatest rises, or the error of a tunnel.
func measureTunnel(s api.LevelSurvey, t api.LevelTunnel) (measured, api.Errno) {
	if Check(s) != api.OK || !isDefined(s, tunnel(t)) {
		return measured{}, api.ErrArg
	}
	m, possible := measure(s)
	if !possible {
		return measured{}, api.ErrRule
	}
	if !m.joined(t.From, t.To) {
		return measured{}, api.ErrNone
	}
	return m, api.OK
}

// meets returns by how much the head from the station From is the higher one.
func (m measured) meets(t api.LevelTunnel) api.Span {
	wrong := t.Long * t.Err
	return api.Span{
		Low:  sum(m.low(t.To, t.From), -t.Long*t.Fall, -wrong),
		High: sum(m.high(t.To, t.From), -t.Long*t.Fall, wrong),
	}
}

// rated is something with a number, that is the better the less it is worth.
type rated struct{ number, worth int }

func isLess(a, b rated) bool { return a.worth < b.worth }
