package gate_test

import (
	"math/rand/v2"
	"reflect"
	"slices"
	"testing"

	"quinaria/api"
	"quinaria/gate"
)

// given is the arguments of all functions.
type given struct {
	n                       api.GateNet
	open, flows, out, order []int
	point                   int
	text                    string
}

// clone returns arguments in memory of their own.
func (x given) clone() given {
	x.n = changed(x.n, func(*api.GateNet) {})
	x.open, x.flows, x.out, x.order = slices.Clone(x.open), slices.Clone(x.flows), slices.Clone(x.out), slices.Clone(x.order)
	return x
}

// answers returns what all functions return for some arguments: up to two results, and an error.
func answers(x given) [][]any {
	all := [][]any{{gate.Check(x.n)}}
	put := func(y any, e api.Errno) { all = append(all, []any{y, e}) }
	fed, e := gate.Fed(x.n, x.open)
	put(fed, e)
	feeds, e := gate.Feeds(x.n, x.open, x.flows)
	put(feeds, e)
	cut, e := gate.Cut(x.n, x.open)
	put(cut, e)
	most, e := gate.Most(x.n, x.open, x.point)
	put(most, e)
	fewest, e := gate.Fewest(x.n)
	put(fewest, e)
	moves, e := gate.Moves(x.n, x.open, x.out)
	put(moves, e)
	proof, e := gate.Proof(x.n, x.out)
	put(proof, e)
	vital, e := gate.Vital(x.n)
	put(vital, e)
	plan, many, e := gate.Plan(x.n, x.open, x.order)
	all = append(all, []any{plan, many, e})
	together, e := gate.Together(x.n, x.out)
	put(together, e)
	rounds, e := gate.Rounds(x.n, x.out)
	put(rounds, e)
	text, e := gate.Print(x.n)
	put(text, e)
	read, e := gate.Read(x.text)
	put(read, e)
	printed, e := gate.Read(text)
	put(printed, e)
	return all
}

// ours are some arguments, with most of which all functions have results.
func ours() (all []given) {
	small := "point 5 5 0\npoint 0 0 3\ngate 0 1 4\nend 142\n"
	for _, x := range ourNets() {
		gates := gatesIn(x)
		flows, _ := flowsFor(x, gates)
		order := append(gates, gates...)[:min(len(gates), 4)]
		all = append(all, given{x, gates, flows, gates[:len(gates)/2], order, len(x.Points) - 1, small})
	}
	return append(all, given{netN(), list(0, 3), list(90, 0, 40, 50, 0), list(0, 4), list(0, 1, 4, 0), 3, small})
}

// P0.1, R5: every function answers, whatever the arguments are.
func TestAnyValue(t *testing.T) {
	values := list(-huge-1, -10000, -1, 0, 1, 2, 3, 4, 5, 6, 7, 9, 10, 11, 10000, 10001, huge-1, huge)
	for _, x := range ours() {
		for i, a := range values {
			for j, b := range values {
				c, d := values[(i+j+5)%len(values)], values[(3*i+j+1)%len(values)]
				y := x.clone()
				y.open, y.flows, y.out, y.order, y.point = list(a, b), list(a, b, c, d), list(b, c), list(c, d, a), d
				answers(y)
				y.n = net(points(a, b, c, d, a, b), b, c, d, 1, 0, 1, a, 1)
				answers(y)
				y.n = net(points(9, 12, 1, 0, 3, 4), a, b, 5, 1, 1, 0, 5, 1, 0, 1, 7, 0)
				answers(y)
			}
		}
	}
	for _, wrong := range wrongNets() {
		x := ours()[0]
		x.n = wrong
		answers(x)
	}
	many := make([]int, 100000)
	big := given{n: api.GateNet{Points: make([]api.GatePoint, 100000), Channels: make([]api.GateChannel, 100000)}, open: many, flows: many, out: many, order: many}
	answers(big)
	big.n = netN()
	answers(big)
	answers(given{})
}

// R2: with an error, all other results are zero values.
func TestErrorsHaveNoResults(t *testing.T) {
	check := func(x given) {
		for i, y := range answers(x) {
			if y[len(y)-1] == api.OK {
				continue
			}
			for _, z := range y[:len(y)-1] {
				if v := reflect.ValueOf(z); !v.IsZero() && !(v.Kind() == reflect.Slice && v.Len() == 0) {
					t.Error(i, x, y)
				}
			}
		}
	}
	for _, x := range ours() {
		check(x)
		for _, wrong := range wrongNets() {
			y := x
			y.n = wrong
			check(y)
		}
		for _, n := range list(-1, 10001, huge) {
			y := x
			y.open, y.flows, y.out, y.order, y.point, y.text = list(n), list(n), list(n), list(n), n, "point 1 1 1\nend 000\n"
			check(y)
		}
	}
}

// R4, R8: no argument is changed, no result shares memory with another one, and equal calls have equal results.
func TestNothingIsKept(t *testing.T) {
	for i, x := range ours() {
		before := x.clone()
		once := answers(x)
		again := answers(x.clone())
		if !reflect.DeepEqual(x, before) || !reflect.DeepEqual(once, again) {
			t.Error(i, x, once, again)
		}
		for _, y := range once {
			spoil(y[0])
		}
		if !reflect.DeepEqual(x, before) || !reflect.DeepEqual(again, answers(x)) {
			t.Error("results share memory", i, x, before)
		}
	}
}

// spoil overwrites the memory of a result.
func spoil(x any) {
	switch y := x.(type) {
	case []int:
		for i := range y {
			y[i] = -77
		}
	case [][]int:
		for _, open := range y {
			spoil(append(open, -77))
			spoil(open)
		}
	case api.GateNet:
		for i := range y.Points {
			y.Points[i].Need = -77
		}
		for i := range y.Channels {
			y.Channels[i].Cups = -77
		}
	}
}

// R4: no positions of a plan share memory with others, nor with room behind them, also if they are equal.
func TestPositionsAreApart(t *testing.T) {
	for _, order := range lists(list(0, 0, 0, 0), list(0, 6, 0, 6), list(1, 2, 3, 1)) {
		plan, _, _ := gate.Plan(wideNet(), list(3, 4, 5), order)
		again, _, _ := gate.Plan(wideNet(), list(3, 4, 5), order)
		for k := range plan {
			spoil(append(plan[k], -77, -77, -77))
			spoil(plan[k])
			if !sameLists(plan[k+1:], again[k+1:]) {
				t.Error(k, plan, again)
			}
		}
	}
}

// R4: lists with room behind them are not written to.
func TestRoomBehindLists(t *testing.T) {
	x := ours()[0]
	x.open, x.out, x.order, x.flows = list(0, 3, 77, 77), list(0, 4, 77, 77), list(0, 1, 77, 77), list(90, 0, 40, 50, 0, 77, 77)
	whole := x.clone()
	y := x
	y.n.Points, y.n.Channels = append(x.n.Points, api.GatePoint{Need: 77})[:4], append(x.n.Channels, api.GateChannel{Cups: 77})[:5]
	y.open, y.out, y.order, y.flows = x.open[:2], x.out[:2], x.order[:2], x.flows[:5]
	for i, z := range answers(y) {
		if e := z[len(z)-1]; e != api.OK && !(i == 3 || i == 7) {
			t.Error(i, z)
		}
	}
	if !reflect.DeepEqual(x, whole) || y.n.Points[:5][4].Need != 77 || y.n.Channels[:6][5].Cups != 77 {
		t.Error(x, whole)
	}
}

// R3: nil and empty lists are the same.
func TestNilAndEmpty(t *testing.T) {
	for _, n := range append(ourNets(), net(points(3, 3, 4)), api.GateNet{}) {
		x, y := given{n: n}, given{n: n, open: list(), flows: list(), out: list(), order: list()}
		if len(n.Channels) == 0 {
			x.n.Channels, y.n.Channels = nil, []api.GateChannel{}
		}
		if len(n.Points) == 0 {
			x.n.Points, y.n.Points = nil, []api.GatePoint{}
		}
		if !reflect.DeepEqual(answers(x), answers(y)) {
			t.Error(answers(x), answers(y))
		}
	}
}

// P8.9: a gate more that is open, a channel that carries more, and a need that is less never make a network less fed.
func TestFedMore(t *testing.T) {
	r := rand.New(rand.NewPCG(8, 14))
	for _, x := range someNets(r, 1500, 7) {
		open := somePart(r, gatesIn(x))
		before, e := gate.Fed(x, open)
		better := []api.GateNet{x}
		more := lists(open)
		for k, c := range x.Channels {
			better = append(better, changed(x, func(n *api.GateNet) { n.Channels[k].Cups += r.IntN(10001 - c.Cups) }))
			more = append(more, open)
			if c.Gate && !slices.Contains(open, k) {
				better, more = append(better, x), append(more, toggled(open, list(k)))
			}
		}
		for i, p := range x.Points {
			better, more = append(better, wanting(x, i, r.IntN(p.Need+1))), append(more, open)
		}
		for i, y := range better {
			if after, f := gate.Fed(y, more[i]); after < before || e != api.OK || f != api.OK {
				t.Error(x, open, before, y, more[i], after)
			}
		}
	}
}
