package leak_test

import (
	"math/rand/v2"
	"slices"
	"testing"

	"quinaria/api"
	"quinaria/leak"
)

const (
	never  = api.LeakNever
	may    = api.LeakMay
	surely = api.LeakSurely
)

func words(x ...api.LeakWord) []api.LeakWord { return x }

// P5.3: the chapter's examples, lines that are tapped surely, or nowhere, or anywhere, and errors in their order.
func TestKnownAndSets(t *testing.T) {
	tenths := line(list(0, 0, 0), 10, 20, 2, 0, 100, 100, 1, 90, 90)
	for i, x := range []struct {
		l     api.LeakLine
		sets  [][]int
		known []api.LeakWord
	}{
		{lineM(), lists(list(0), list(1), list(2)), words(may, may, may)},
		{tapping(lineM(), 2), lists(list(0), list(1), list(2), list(0, 1), list(0, 2), list(1, 2)), words(may, may, may)},
		{with(lineM(), 1, 90, 94), lists(list(1), list(2)), words(never, may, may)},
		{with(lineM(), 2, 90, 94), lists(list(2)), words(never, never, surely)},
		{with(lineM(), 1, 70, 89), lists(list(0)), words(surely, never, never)},
		{line(list(10, 0, 20), 5, 15, 2), lists(nil, list(0), list(1), list(2), list(0, 1), list(0, 2), list(1, 2)), words(may, may, may)},
		{line(list(10, 0, 20), 5, 15, 1), lists(nil, list(0), list(1), list(2)), words(may, may, may)},
		{line(list(10, 0, 20), 5, 15, 0), lists(nil), words(never, never, never)},
		{smallLine(), lists(nil), words(never)},
		{line(list(0), 1, 1, 2), lists(nil, list(0)), words(may)},
		{line(list(0), 1, 1, 2, 0, 1, 1, 1, 0, 0), lists(list(0)), words(surely)},
		{tenths, lists(list(0), list(0, 1), list(0, 2)), words(surely, may, may)},
		{tapping(tenths, 1), lists(list(0)), words(surely, never, never)},
		{with(tenths, 3, 70, 80), lists(list(0, 1), list(0, 2)), words(surely, may, may)},
		{with(tenths, 3, 80, 80, 2, 80, 80), lists(list(0, 1)), words(surely, surely, never)},
		{line(list(60, 60, 60, 60, 60), 60, 60, 2, 0, 400, 400, 4, 160, 160), lists(nil, list(4)), words(never, never, never, never, may)},
		{line(list(60, 60, 60, 60, 60), 60, 60, 2), lists(nil, list(0), list(1), list(2), list(3), list(4)), words(may, may, may, may, may)},
		{wideLine(), lists(nil, list(0), list(1), list(2), list(3), list(4), list(0, 1), list(0, 2), list(0, 3), list(0, 4), list(1, 2), list(1, 3), list(1, 4), list(2, 3), list(2, 4), list(3, 4)),
			words(may, may, may, may, may)},
	} {
		if y, e := leak.Sets(x.l); !slices.EqualFunc(y, x.sets, slices.Equal) || e != api.OK {
			t.Error(i, y, e)
		}
		if y, e := leak.Known(x.l); !slices.Equal(y, x.known) || e != api.OK {
			t.Error(i, y, e)
		}
	}
	wrong := func(l api.LeakLine, want api.Errno) {
		if y, e := leak.Sets(l); len(y) > 0 || e != want {
			t.Error(l, y, e)
		}
		if y, e := leak.Known(l); len(y) > 0 || e != want {
			t.Error(l, y, e)
		}
	}
	for _, l := range wrongLines() {
		wrong(l, api.ErrArg)
	}
	for _, l := range impossibleLines() {
		wrong(l, api.ErrRule)
	}
}

// P5.3: the chapter's examples, sets that do not explain a line, or have too many stretches, and lists that are no sets.
func TestExplains(t *testing.T) {
	m := lineM()
	free := line(list(10, 0, 20), 5, 15, 2)
	for i, x := range []struct {
		l    api.LeakLine
		set  []int
		want api.Span
		e    api.Errno
	}{
		{m, list(1), span(8, 15), api.OK}, {m, list(0), span(8, 15), api.OK}, {m, nil, span(0, 0), api.ErrNone}, {m, list(0, 1), span(0, 0), api.ErrNone},
		{tapping(m, 2), list(0, 1), span(10, 16), api.OK}, {tapping(m, 2), list(1, 2), span(10, 16), api.OK}, {tapping(m, 2), list(2), span(8, 15), api.OK},
		{tapping(m, 0), nil, span(0, 0), api.ErrNone}, {tapping(m, 0), list(0), span(0, 0), api.ErrNone}, {tapping(m, 0), list(0, 2), span(0, 0), api.ErrNone},
		{free, nil, span(0, 0), api.OK}, {free, list(), span(0, 0), api.OK}, {free, list(0, 2), span(10, 30), api.OK}, {free, list(2), span(5, 15), api.OK},
		{smallLine(), nil, span(0, 0), api.OK}, {smallLine(), list(0), span(0, 0), api.ErrNone},
		{fullLine(), list(4), span(60, 60), api.OK}, {fullLine(), list(3), span(60, 60), api.OK}, {fullLine(), list(3, 4), span(0, 0), api.ErrNone},
		{lineN(), list(0), span(0, 0), api.ErrNone}, {lineN(), nil, span(0, 0), api.ErrNone}, {tripleLine(), list(0, 2), span(0, 0), api.ErrNone},
		{m, list(3), span(0, 0), api.ErrArg}, {m, list(-1), span(0, 0), api.ErrArg}, {m, list(0, 3), span(0, 0), api.ErrArg}, {m, list(1, 0), span(0, 0), api.ErrArg},
		{m, list(1, 1), span(0, 0), api.ErrArg}, {m, list(0, 1, 2), span(0, 0), api.ErrArg}, {m, list(huge), span(0, 0), api.ErrArg}, {m, list(0, huge), span(0, 0), api.ErrArg},
		{m, list(-huge - 1), span(0, 0), api.ErrArg}, {smallLine(), list(0, 1), span(0, 0), api.ErrArg}, {lineN(), list(3), span(0, 0), api.ErrArg}, {tripleLine(), list(0, 1, 2), span(0, 0), api.ErrArg},
	} {
		if y, e := leak.Explains(x.l, x.set); y != x.want || e != x.e {
			t.Error(i, y, e)
		}
	}
	for i, l := range wrongLines() {
		if y, e := leak.Explains(l, nil); y != span(0, 0) || e != api.ErrArg {
			t.Error(i, y, e)
		}
	}
}

// P5.3, P0.5: sets, words and losses are those of all truths that fit; a stretch
// is tapped surely just if it is in all sets, and never just if it is in none.
func TestAllSets(t *testing.T) {
	r := rand.New(rand.NewPCG(5, 3))
	found := map[api.LeakWord]int{}
	for range 300 {
		l := someLine(r, 5, 5)
		truths := truthsOf(l)
		if len(truths) == 0 {
			continue
		}
		sets := setsOf(truths)
		if y, e := leak.Sets(l); !slices.EqualFunc(y, sets, slices.Equal) || e != api.OK {
			t.Error(l, y, e, sets)
		}
		known, e := leak.Known(l)
		if len(known) != len(l.Gives) || e != api.OK {
			t.Error(l, known, e)
		}
		for i, word := range known {
			found[word]++
			in := 0
			for _, set := range sets {
				if slices.Contains(set, i) {
					in++
				}
			}
			if (word == surely) != (in == len(sets)) || (word == never) != (in == 0) || word < never || word > surely {
				t.Error(l, i, word, sets)
			}
		}
		for _, set := range sublists(len(l.Gives)) {
			if len(set) > 2 {
				break
			}
			want, is := empty(), api.OK
			for _, x := range truths {
				if slices.Equal(tappedIn(x.losses), set) {
					want = wider(want, x.flows[0]-x.flows[len(l.Gives)]-total(l.Gives))
				}
			}
			if want == empty() {
				want, is = span(0, 0), api.ErrNone
			}
			if y, e := leak.Explains(l, set); y != want || e != is {
				t.Error(l, set, y, e, want, is)
			}
		}
	}
	if found[never] < 50 || found[may] < 50 || found[surely] < 20 {
		t.Error("too few of a kind", found)
	}
}

// total returns the sum of some numbers.
func total(numbers []int) (n int) {
	for _, x := range numbers {
		n += x
	}
	return n
}

// P5.1 to P5.3: losses that can be anything, from 1 to 60.
func TestWideLosses(t *testing.T) {
	for i, l := range []api.LeakLine{
		line(list(0, 5, 0), 1, 60, 2, 0, 100, 100, 3, 10, 14), line(list(7, 0, 60), 1, 60, 2, 1, 61, 61, 3, 0, 1),
		line(list(0, 0, 0), 1, 60, 2, 0, 399, 400, 2, 345, 350, 3, 300, 320), line(list(0, 0, 0), 59, 60, 2, 0, 121, 121, 3, 1, 3),
	} {
		truths := truthsOf(l)
		if len(truths) == 0 {
			t.Fatal(i)
		}
		if y, e := leak.Sets(l); !slices.EqualFunc(y, setsOf(truths), slices.Equal) || e != api.OK {
			t.Error(i, y, e, setsOf(truths))
		}
		for point := range len(l.Gives) + 1 {
			flow := empty()
			for _, x := range truths {
				flow = wider(flow, x.flows[point])
			}
			if y, e := leak.Flows(l, point); y != flow || e != api.OK {
				t.Error(i, point, y, e, flow)
			}
		}
	}
}
