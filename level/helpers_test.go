package level_test

import (
	"math/rand/v2"
	"slices"

	"quinaria/api"
	"quinaria/level"
)

const huge = int(^uint(0) >> 1)

func sight(from, to, rise, off int) api.LevelSight {
	return api.LevelSight{From: from, To: to, Rise: rise, Off: off}
}

func survey(stations int, sights ...api.LevelSight) api.LevelSurvey {
	return api.LevelSurvey{Stations: stations, Sights: sights}
}

func leg(from, to, long int) api.LevelLeg { return api.LevelLeg{From: from, To: to, Long: long} }

func tunnel(from, to, long, fall, err int) api.LevelTunnel {
	return api.LevelTunnel{From: from, To: to, Long: long, Fall: fall, Err: err}
}

func try(from, to, off int) api.LevelTry { return api.LevelTry{From: from, To: to, Off: off} }

func on(sight int) api.LevelStep { return api.LevelStep{Sight: sight} }

func back(sight int) api.LevelStep { return api.LevelStep{Sight: sight, Back: true} }

func steps(x ...api.LevelStep) []api.LevelStep { return x }

func span(low, high int) api.Span { return api.Span{Low: low, High: high} }

func list(n ...int) []int { return n }

// The chapter's surveys.

func surveyS() api.LevelSurvey {
	return survey(4, sight(0, 1, 10, 1), sight(1, 2, -4, 2), sight(2, 3, 7, 1), sight(0, 3, 15, 2))
}

func surveyT() api.LevelSurvey {
	s := surveyS()
	s.Sights[3].Rise = 20
	return s
}

func surveyU() api.LevelSurvey {
	s := surveyT()
	s.Sights = append(s.Sights, sight(0, 1, 10, 0))
	return s
}

// parted is a survey of three parts, whose bases are 0, 1 and 4.
func parted() api.LevelSurvey {
	return survey(5, sight(2, 0, 5, 1), sight(1, 3, 8, 0))
}

// full is a survey with as many stations and sights as there can be.
func full() api.LevelSurvey {
	s := survey(8)
	for i := range 14 {
		s.Sights = append(s.Sights, sight(i%7, i%7+1, 1000, 50))
	}
	return s
}

// wrongSurveys are surveys each of which is not as defined in one way.
func wrongSurveys() []api.LevelSurvey {
	list := []api.LevelSurvey{{}, survey(1), survey(9), survey(-1), survey(huge), survey(-huge - 1)}
	for _, x := range []api.LevelSight{
		sight(-1, 0, 0, 0), sight(0, -1, 0, 0), sight(2, 0, 0, 0), sight(0, 2, 0, 0), sight(1, 1, 0, 0),
		sight(0, 1, 1001, 0), sight(0, 1, -1001, 0), sight(0, 1, 0, -1), sight(0, 1, 0, 51),
		sight(huge, 0, 0, 0), sight(0, -huge-1, 0, 0), sight(0, 1, huge, huge), sight(0, 1, -huge-1, 0), sight(0, 1, 0, -huge-1),
	} {
		list = append(list, survey(2, x), survey(2, sight(0, 1, 5, 5), x))
	}
	return append(list, survey(2, slices.Repeat([]api.LevelSight{sight(0, 1, 0, 0)}, 15)...))
}

// some returns surveys of few stations whose numbers are small, so that all can be tried out.
func some(count, stations, sights int) []api.LevelSurvey {
	r := rand.New(rand.NewPCG(uint64(stations), uint64(sights)))
	var list []api.LevelSurvey
	for range count {
		s := survey(2 + r.IntN(stations-1))
		for range r.IntN(sights + 1) {
			from := r.IntN(s.Stations)
			to := (from + 1 + r.IntN(s.Stations-1)) % s.Stations
			s.Sights = append(s.Sights, sight(from, to, r.IntN(7)-3, r.IntN(3)))
		}
		list = append(list, s)
	}
	return list
}

// possible returns those of some surveys that are possible, with their truths.
func possible(surveys []api.LevelSurvey, try func(s api.LevelSurvey, truths [][]int)) {
	for _, s := range surveys {
		if truths := truthsOf(s); len(truths) > 0 {
			try(s, truths)
		}
	}
}

// basesOf returns the base of each station.
func basesOf(s api.LevelSurvey) []int {
	bases := make([]int, s.Stations)
	for i := range bases {
		bases[i] = i
	}
	for range s.Stations {
		for _, x := range s.Sights {
			base := min(bases[x.From], bases[x.To])
			bases[x.From], bases[x.To] = base, base
		}
	}
	return bases
}

// truthsOf returns all heights that fit, with all bases at 0, by trying all heights.
func truthsOf(s api.LevelSurvey) [][]int {
	reach := 0
	for _, x := range s.Sights {
		reach = max(reach, max(x.Rise, -x.Rise)+x.Off)
	}
	reach *= s.Stations - 1
	bases := basesOf(s)
	var truths [][]int
	var goOn func(heights []int)
	goOn = func(heights []int) {
		at := len(heights)
		if at == s.Stations {
			truths = append(truths, slices.Clone(heights))
			return
		}
		far := reach
		if bases[at] == at {
			far = 0
		}
		for h := -far; h <= far; h++ {
			if more := append(heights, h); agrees(s, more) {
				goOn(more)
			}
		}
	}
	goOn(nil)
	return truths
}

// agrees reports whether the heights of the first stations fit all sights between these.
func agrees(s api.LevelSurvey, heights []int) bool {
	for _, x := range s.Sights {
		if x.From < len(heights) && x.To < len(heights) {
			wrong := heights[x.To] - heights[x.From] - x.Rise
			if wrong > x.Off || -wrong > x.Off {
				return false
			}
		}
	}
	return true
}

// spanOf returns the least and the greatest rise over some truths.
func spanOf(truths [][]int, from, to int) api.Span {
	x := span(huge, -huge)
	for _, t := range truths {
		x.Low, x.High = min(x.Low, t[to]-t[from]), max(x.High, t[to]-t[from])
	}
	return x
}

// sameSurvey reports whether two surveys are the same value.
func sameSurvey(a, b api.LevelSurvey) bool {
	return a.Stations == b.Stations && slices.Equal(a.Sights, b.Sights)
}

// isPossible returns what Possible returns of a survey without some of its sights.
func isPossible(s api.LevelSurvey, dropped []int) bool {
	rest := survey(s.Stations)
	for i, x := range s.Sights {
		if !slices.Contains(dropped, i) {
			rest.Sights = append(rest.Sights, x)
		}
	}
	is, e := level.Possible(rest)
	return is && e == api.OK
}
