package channel_test

import (
	"math/rand/v2"
	"slices"
	"testing"

	"quinaria/api"
	"quinaria/channel"
)

// P2.6: the chapter's examples, points above the inlet, and errors.
func TestPressuresAndFlows(t *testing.T) {
	for i, x := range []struct {
		s     api.ChannelSiphon
		want  []api.Span
		flows api.ChannelWord
	}{
		{siphonS(), points(span(38, 44), span(59, 64), span(59, 64), span(28, 34)), api.ChannelSurely},
		{fullSiphon(), slices.Repeat(points(span(0, 1000)), 7), api.ChannelMay},
		{siphon(span(10, 12), points(span(13, 20), span(12, 15)), 1), points(span(0, 0)), api.ChannelNever},
		{siphon(span(10, 12), points(span(13, 20), span(11, 15)), 1), points(span(0, 1)), api.ChannelMay},
		{siphon(span(10, 12), points(span(5, 7), span(11, 15)), 1), points(span(3, 7)), api.ChannelMay},
		{siphon(span(10, 12), points(span(11, 15), span(5, 7)), 1), points(span(3, 7)), api.ChannelSurely},
		// The one point is lower at most, the other one at least.
		{siphon(span(20, 20), points(span(0, 15), span(8, 9)), 1), points(span(11, 20)), api.ChannelSurely},
		{siphon(span(10, 10), points(span(0, 0), span(10, 10)), 1), points(span(10, 10)), api.ChannelNever},
		{siphon(span(10, 10), points(span(0, 0), span(9, 9)), 1), points(span(10, 10)), api.ChannelSurely},
		{siphon(span(10, 11), points(span(0, 0), span(10, 10)), 1), points(span(10, 11)), api.ChannelMay},
		{siphon(span(10, 10), points(span(0, 0), span(9, 10)), 1), points(span(10, 10)), api.ChannelMay},
		{siphon(span(10, 12), points(span(0, 0), span(4, 10)), 1), points(span(10, 12)), api.ChannelMay},
		{siphon(span(0, 0), points(span(0, 0), span(0, 0)), 100), points(span(0, 0)), api.ChannelNever},
		// A point in between that is higher than the inlet tells nothing.
		{siphon(span(10, 10), points(span(0, 0), span(50, 60), span(5, 5)), 1, 1), points(span(10, 10), span(5, 5)), api.ChannelSurely},
	} {
		if y, e := channel.Pressures(x.s); !slices.Equal(y, x.want) || e != api.OK {
			t.Error(i, y, e)
		}
		if y, e := channel.Flows(x.s); y != x.flows || e != api.OK {
			t.Error(i, y, e)
		}
	}
	for i, s := range wrongSiphons() {
		if y, e := channel.Pressures(s); len(y) > 0 || e != api.ErrArg {
			t.Error(i, y, e)
		}
		if y, e := channel.Flows(s); y != 0 || e != api.ErrArg {
			t.Error(i, y, e)
		}
	}
}

// P2.6: the chapter's example, choices without enough stock, and errors.
func TestBursts(t *testing.T) {
	weak := classes(class(1, 100, 0), class(1000, 0, 0))
	for i, x := range []struct {
		s      api.ChannelSiphon
		c      []api.ChannelClass
		choice []int
		want   []int
		e      api.Errno
	}{
		{siphonS(), classesC(), list(0, 2, 2, 1), list(0), api.OK},
		{siphonS(), classesC(), list(1, 2, 2, 2), nil, api.OK},
		{siphonS(), classesC(), list(0, 0, 0, 0), list(0, 1, 2, 3), api.OK},
		{siphonS(), classesC(), list(1, 1, 1, 1), list(1, 2), api.OK},
		{siphonS(), classes(class(44, 0, 0), class(64, 0, 0), class(34, 0, 0)), list(0, 1, 1, 2), nil, api.OK},
		{siphonS(), classes(class(43, 0, 0), class(63, 0, 0), class(33, 0, 0)), list(0, 1, 1, 2), list(0, 1, 2, 3), api.OK},
		{fullSiphon(), weak, list(0, 1, 0, 1, 0, 1, 0), list(0, 2, 4, 6), api.OK},
		{siphonS(), classesC(), nil, nil, api.ErrArg},
		{siphonS(), classesC(), list(0, 0, 0), nil, api.ErrArg},
		{siphonS(), classesC(), list(0, 0, 0, 0, 0), nil, api.ErrArg},
		{siphonS(), classesC(), list(0, 0, 0, 3), nil, api.ErrArg},
		{siphonS(), classesC(), list(0, -1, 0, 0), nil, api.ErrArg},
		{siphonS(), classesC(), list(huge, 0, 0, 0), nil, api.ErrArg},
		{siphonS(), classesC(), list(0, 0, -huge-1, 0), nil, api.ErrArg},
	} {
		if y, e := channel.Bursts(x.s, x.c, x.choice); !slices.Equal(y, x.want) || e != x.e {
			t.Error(i, y, e)
		}
	}
	for i, s := range wrongSiphons() {
		if y, e := channel.Bursts(s, classesC(), make([]int, len(s.Lengths))); len(y) > 0 || e != api.ErrArg {
			t.Error(i, y, e)
		}
	}
	for i, c := range wrongClasses() {
		if y, e := channel.Bursts(siphonS(), c, list(0, 0, 0, 0)); len(y) > 0 || e != api.ErrArg {
			t.Error(i, y, e)
		}
	}
}

// pressuresOf returns the pressures of all segments in a truth, whose first height is that of the inlet.
func pressuresOf(heights []int) []int {
	var all []int
	for k := 1; k+1 < len(heights); k++ {
		all = append(all, max(0, heights[0]-heights[k], heights[0]-heights[k+1]))
	}
	return all
}

// P2.6, P0.2: over all truths, pressures lie within the bounds, both ends are
// reached, the siphon flows as is returned, and just what is returned can burst.
func TestAllHeights(t *testing.T) {
	r := rand.New(rand.NewPCG(2, 6))
	words := map[api.ChannelWord]int{}
	for range 400 {
		s := someSiphon(r, 4)
		sets := [][]int{numbersOf(s.Inlet)}
		for _, x := range s.Points {
			sets = append(sets, numbersOf(x))
		}
		want := slices.Repeat(points(span(huge, -1)), len(s.Lengths))
		flows := map[bool]bool{}
		lists(sets, func(heights []int) {
			flows[heights[0] > heights[len(heights)-1]] = true
			for k, n := range pressuresOf(heights) {
				want[k] = span(min(want[k].Low, n), max(want[k].High, n))
			}
		})
		word := api.ChannelMay
		if !flows[true] {
			word = api.ChannelNever
		} else if !flows[false] {
			word = api.ChannelSurely
		}
		words[word]++
		if y, e := channel.Pressures(s); !slices.Equal(y, want) || e != api.OK {
			t.Error(s, y, e)
		}
		if y, e := channel.Flows(s); y != word || e != api.OK {
			t.Error(s, y, e)
		}
		c := someClasses(r)
		var choice, bursts []int
		for k := range s.Lengths {
			choice = append(choice, r.IntN(len(c)))
			if want[k].High > c[choice[k]].Bears {
				bursts = append(bursts, k)
			}
		}
		if y, e := channel.Bursts(s, c, choice); !slices.Equal(y, bursts) || e != api.OK {
			t.Error(s, c, choice, y, e)
		}
	}
	for word := api.ChannelNever; word <= api.ChannelSurely; word++ {
		if words[word] < 30 {
			t.Error("too few siphons of a kind", words)
		}
	}
}

// P2.7: the chapter's example, stock that is just enough, and errors in their order.
func TestPipes(t *testing.T) {
	for i, x := range []struct {
		s      api.ChannelSiphon
		c      []api.ChannelClass
		choice []int
		price  int
		e      api.Errno
	}{
		{siphonS(), classesC(), list(1, 2, 2, 2), 280, api.OK},
		{siphonS(), classes(class(30, 1, 1000), class(50, 3, 20), class(70, 5, 50)), list(1, 2, 2, 1), 260, api.OK},
		{siphonS(), classes(class(30, 1, 1000), class(50, 3, 19), class(70, 5, 50)), list(1, 2, 2, 2), 280, api.OK},
		{siphonS(), classes(class(30, 1, 1000), class(50, 3, 15), class(70, 5, 49)), nil, 0, api.ErrNone},
		{siphonS(), classes(class(63, 1, 1000)), nil, 0, api.ErrNone},
		{siphonS(), classes(class(64, 1, 60)), list(0, 0, 0, 0), 60, api.OK},
		{siphonS(), classes(class(64, 1, 59)), nil, 0, api.ErrNone},
		{siphonS(), classes(class(64, 0, 1000), class(64, 0, 1000)), list(0, 0, 0, 0), 0, api.OK},
		{siphonS(), classes(class(64, 5, 60), class(64, 4, 60), class(64, 4, 60), class(70, 4, 60)), list(1, 1, 1, 1), 240, api.OK},
		// As cheap is 1 0 0 1, which comes later.
		{siphonS(), classes(class(64, 1, 40), class(64, 9, 20)), list(0, 0, 1, 0), 220, api.OK},
		{siphonS(), classes(class(64, 9, 20), class(64, 1, 40)), list(0, 1, 1, 0), 220, api.OK},
		{siphonS(), classes(class(64, 9, 60), class(64, 1, 25)), list(0, 0, 1, 0), 380, api.OK},
		{siphonS(), classes(class(64, 1, 20), class(64, 2, 60)), list(0, 1, 1, 0), 100, api.OK},
		{siphonS(), classes(class(64, 1, 29), class(64, 2, 60)), list(0, 1, 1, 0), 100, api.OK},
		// Both short segments alone would leave some of the cheap class unused.
		{siphonS(), classes(class(64, 1, 30), class(64, 2, 60)), list(0, 0, 1, 1), 90, api.OK},
		{fullSiphon(), classes(class(999, 0, 1000), class(1000, 100, 700)), list(1, 1, 1, 1, 1, 1, 1), 70000, api.OK},
		{fullSiphon(), classes(class(999, 0, 1000), class(1000, 100, 699)), nil, 0, api.ErrNone},
		{fullSiphon(), classes(class(1000, 3, 200), class(1000, 2, 200), class(1000, 1, 200), class(1000, 0, 200)), list(0, 1, 1, 2, 2, 3, 3), 900, api.OK},
		{fullSiphon(), slices.Repeat(classes(class(1000, 100, 0)), 4), nil, 0, api.ErrNone},
	} {
		if choice, price, e := channel.Pipes(x.s, x.c); !slices.Equal(choice, x.choice) || price != x.price || e != x.e {
			t.Error(i, choice, price, e)
		}
	}
	for i, s := range wrongSiphons() {
		if choice, price, e := channel.Pipes(s, classesC()); len(choice) > 0 || price != 0 || e != api.ErrArg {
			t.Error(i, choice, price, e)
		}
	}
	for i, c := range wrongClasses() {
		if choice, price, e := channel.Pipes(siphonS(), c); len(choice) > 0 || price != 0 || e != api.ErrArg {
			t.Error(i, choice, price, e)
		}
	}
}

// P2.7, P0.2: no choice that suffices has a lesser price, none as cheap comes first, and no pipe of it can burst.
func TestNoChoiceIsCheaper(t *testing.T) {
	r := rand.New(rand.NewPCG(2, 7))
	both := map[bool]int{}
	for range 600 {
		s, c := someSiphon(r, 6), someClasses(r)
		pressures, _ := channel.Pressures(s)
		var want []int
		least := huge
		lists(slices.Repeat([][]int{numbersOf(span(0, len(c)-1))}, len(s.Lengths)), func(choice []int) {
			price, used := 0, make([]int, len(c))
			for k, n := range choice {
				price += c[n].Price * s.Lengths[k]
				used[n] += s.Lengths[k]
				if pressures[k].High > c[n].Bears || used[n] > c[n].Stock {
					return
				}
			}
			if price < least {
				want, least = choice, price
			}
		})
		both[want != nil]++
		f := api.OK
		if want == nil {
			least, f = 0, api.ErrNone
		}
		choice, price, e := channel.Pipes(s, c)
		if !slices.Equal(choice, want) || price != least || e != f {
			t.Error(s, c, choice, price, e)
		}
		if e == api.OK {
			if bursts, g := channel.Bursts(s, c, choice); len(bursts) > 0 || g != api.OK {
				t.Error(s, c, choice, bursts, g)
			}
		}
	}
	if both[false] < 50 || both[true] < 50 {
		t.Error("too few of either kind", both)
	}
}
