package channel

import (
	"iter"
	"slices"

	"quinaria/api"
)

// segment is a part of a siphon, from one point to the next one.
type segment struct {
	inlet, first, last api.Span
}

// priced is a choice that suffices, with its price.
type priced struct {
	choice []int
	price  int
}

// Pressures returns between which bounds lies the pressure of each segment.
func Pressures(s api.ChannelSiphon) ([]api.Span, api.Errno) {
	if !isSiphon(s) {
		return nil, api.ErrArg
	}
	return pressures(s), api.OK
}

func pressures(s api.ChannelSiphon) []api.Span {
	spans := make([]api.Span, len(s.Lengths))
	for k := range s.Lengths {
		x := segment{s.Inlet, s.Points[k], s.Points[k+1]}
		spans[k] = spanOf([bothEnds]func() int{low: x.leastPressure, high: x.mostPressure})
	}
	return spans
}

func (x segment) leastPressure() int {
	return max(0, x.inlet.Low-least(x.first.High, x.last.High))
}

func (x segment) mostPressure() int {
	return max(0, x.inlet.High-least(x.first.Low, x.last.Low))
}

// Flows returns whether a siphon flows.
func Flows(s api.ChannelSiphon) (api.ChannelWord, api.Errno) {
	if !isSiphon(s) {
		return 0, api.ErrArg
	}
	last := s.Points[len(s.Points)-1]
	switch {
	case s.Inlet.Low > last.High:
		return api.ChannelSurely, api.OK
	case s.Inlet.High <= last.Low:
		return api.ChannelNever, api.OK
	}
	return api.ChannelMay, api.OK
}

// Bursts returns all segments that can burst with a choice of pipes.
func Bursts(s api.ChannelSiphon, classes []api.ChannelClass, choice []int) ([]int, api.Errno) {
	if !isSiphon(s) || !areClasses(classes) || !isChoice(s, classes, choice) {
		return nil, api.ErrArg
	}
	var bursting []int
	for k, pressure := range pressures(s) {
		if canBurst(classes[choice[k]], pressure) {
			bursting = append(bursting, k)
		}
	}
	return bursting, api.OK
}

// canBurst reports whether a pipe of a class can burst with a pressure.
func canBurst(class api.ChannelClass, pressure api.Span) bool { return pressure.High > class.Bears }

// Pipes returns the cheapest choice of pipes, and its price.
func Pipes(s api.ChannelSiphon, classes []api.ChannelClass) ([]int, int, api.Errno) {
	if !isSiphon(s) || !areClasses(classes) {
		return nil, 0, api.ErrArg
	}
	cheapest, some := best(sufficing(s, classes), func(a, b priced) bool { return a.price < b.price })
	if !some {
		return nil, 0, api.ErrNone
	}
	return cheapest.choice, cheapest.price, api.OK
}

// sufficing goes through all choices that suffice, in lexicographic order.
func sufficing(s api.ChannelSiphon, classes []api.ChannelClass) iter.Seq[priced] {
	return func(yield func(priced) bool) {
		spans := pressures(s)
		var chosen []int
		var used [api.ChannelClasses]int
		var goOn func(price int) bool
		goOn = func(price int) bool {
			k := len(chosen)
			if k == len(s.Lengths) {
				return yield(priced{slices.Clone(chosen), price})
			}
			length := s.Lengths[k]
			for n, class := range classes {
				if canBurst(class, spans[k]) || used[n]+length > class.Stock {
					continue
				}
				chosen, used[n] = append(chosen, n), used[n]+length
				if !goOn(price + length*class.Price) {
					return false
				}
				chosen, used[n] = chosen[:k], used[n]-length
			}
			return true
		}
		goOn(0)
	}
}
