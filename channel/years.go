package channel

import (
	"maps"

	"quinaria/api"
)

// slot is a year in which a stretch is cleaned, so that no other one can be.
type slot struct{ year int }

// noRate is what a search for rates gives up with: none agrees with all counts.
type noRate struct{}

// Latest returns the greatest age at which a stretch surely carries a need.
func Latest(l api.ChannelLine, stretch, need int) (int, api.Errno) {
	if !isLine(l) || !isStretch(l, stretch) || !isNeed(need) {
		return 0, api.ErrArg
	}
	age, some := greatestAge(l, stretch, need)
	if !some {
		return 0, api.ErrNone
	}
	return age, api.OK
}

// greatestAge returns the greatest age of a stretch for a need, and whether there is one.
func greatestAge(l api.ChannelLine, stretch, need int) (int, bool) {
	for age := api.ChannelAge; age >= 0; age-- {
		if at(l, stretch, age).surely(need) {
			return age, true
		}
	}
	return 0, false
}

// Widen returns the least breadths with which a line surely carries a need.
func Widen(l api.ChannelLine, ages []int, need int) ([]int, api.Errno) {
	if !isLine(l) || !areAges(l, ages) || !isNeed(need) {
		return nil, api.ErrArg
	}
	var breadths []int
stretches:
	for i, age := range ages {
		for x := at(l, i, age); x.Breadth <= api.ChannelSize; x.Breadth++ {
			if x.surely(need) {
				breadths = append(breadths, x.Breadth)
				continue stretches
			}
		}
		return nil, api.ErrNone
	}
	return breadths, api.OK
}

// Plan returns the best plan of cleaning.
func Plan(l api.ChannelLine, ages []int, need, until int) ([]int, api.Errno) {
	if !isLine(l) || !areAges(l, ages) || !isNeed(need) || !isFrom(0, api.ChannelYears, until) {
		return nil, api.ErrArg
	}
	plan := make([]int, len(ages))
	var due, lasts []int
	for i, age := range ages {
		greatest, some := greatestAge(l, i, need)
		if !some {
			return nil, api.ErrNone
		}
		plan[i] = -1
		if last := greatest - age; greatest < api.ChannelAge && last < until {
			due, lasts = append(due, i), append(lasts, last)
		}
	}
	years, possible := bestYears(lasts)
	if !possible {
		return nil, api.ErrNone
	}
	for k, i := range due {
		plan[i] = years[k]
	}
	return plan, api.OK
}

// bestYears returns the years of the best plan for stretches with these last
// years, and whether there is a plan. Each stretch in order takes the first
// year with which the sum can still be the greatest one.
func bestYears(lasts []int) (years []int, possible bool) {
	taken := map[slot]bool{}
	sum, possible := greatestSum(lasts, taken)
	if !possible {
		return nil, false
	}
stretches:
	for i, last := range lasts {
		for year := range last + 1 {
			if taken[slot{year}] {
				continue
			}
			taken[slot{year}] = true
			rest, fits := greatestSum(lasts[i+1:], taken)
			if fits && year+rest == sum {
				years, sum = append(years, year), rest
				continue stretches
			}
			delete(taken, slot{year})
		}
	}
	return years, true
}

// greatestSum returns the greatest sum of years for stretches with these last
// years, without those that are taken, and whether there are such years. Each
// takes the latest year that is free. In whatever order they do, the same years
// are taken in the end; in the order of last years, the latest first, it is
// plain that no years could be later.
func greatestSum(lasts []int, taken map[slot]bool) (sum int, possible bool) {
	taken = maps.Clone(taken)
	for _, year := range lasts {
		for taken[slot{year}] {
			year--
		}
		if year < 0 {
			return 0, false
		}
		taken[slot{year}] = true
		sum += year
	}
	return sum, true
}

// Lime returns between which bounds lies the rate of a stretch that was counted.
func Lime(l api.ChannelLine, stretch int, notes []api.ChannelNote) (rates api.Span, e api.Errno) {
	if !isLine(l) || !isStretch(l, stretch) || !areNotes(notes) {
		return api.Span{}, api.ErrArg
	}
	e = attempt(func() { rates = ratesOf(l, stretch, notes) })
	return rates, e
}

// ratesOf returns the least and the greatest rate that agrees with all counts, or gives up if there is none.
func ratesOf(l api.ChannelLine, stretch int, notes []api.ChannelNote) api.Span {
	lime := l.Stretches[stretch].Lime
	var rates []int
candidates:
	for rate := lime.Low; rate <= lime.High; rate++ {
		for _, x := range notes {
			if !at(l, stretch, x.Age).agrees(rate, x.Cups) {
				continue candidates
			}
		}
		rates = append(rates, rate)
	}
	if len(rates) == 0 {
		panic(noRate{})
	}
	return api.Span{Low: rates[0], High: rates[len(rates)-1]}
}

// attempt returns the error with which a search gives up, or OK if it does not.
func attempt(search func()) (e api.Errno) {
	defer func() {
		switch recover().(type) {
		case noRate:
			e = api.ErrRule
		case noText:
			e = api.ErrText
		}
	}()
	search()
	return api.OK
}
