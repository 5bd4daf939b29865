package nozzle_test

import (
	"math/rand/v2"
	"slices"
	"testing"

	"quinaria/api"
	"quinaria/nozzle"
)

func words(x ...api.NozzleWord) []api.NozzleWord { return x }

const (
	never  = api.NozzleNever
	may    = api.NozzleMay
	surely = api.NozzleSurely
)

// P3.5: the chapter's example, pipes that are narrower, wider and as wide, each Draw, and errors.
func TestFlow(t *testing.T) {
	drawn := func(draw int) api.NozzleTable { return table(draw, tableT().Rows...) }
	for i, x := range []struct {
		t      api.NozzleTable
		spouts []api.NozzleSpout
		want   int
		e      api.Errno
	}{
		{tableT(), spouts(0, 1, 2, 0), 25, api.OK},
		{tableT(), spouts(0, 1), 15, api.OK},
		{tableT(), spouts(0, 2), 27, api.OK},
		{tableT(), spouts(1, 2), 32, api.OK},
		{tableT(), spouts(2, 1), 20, api.OK},
		{tableT(), spouts(2, 2), 45, api.OK},
		{tableT(), nil, 0, api.OK},
		// Each one is rounded down.
		{tableT(), spouts(0, 2, 0, 2, 1, 2, 1, 2), 27 + 27 + 32 + 32, api.OK},
		{drawn(0), spouts(0, 2, 1, 2), 30, api.OK},
		{drawn(100), spouts(0, 2, 1, 2), 90, api.OK},
		{drawn(100), spouts(2, 0, 1, 0), 20, api.OK},
		{drawn(99), spouts(0, 2), 44, api.OK},
		{drawn(1), spouts(0, 2), 10, api.OK},
		{drawn(3), spouts(0, 2), 11, api.OK},
		{drawn(2), spouts(0, 2), 10, api.OK},
		{table(100, row(1, 1, 5), row(2, 2, 5)), spouts(0, 1, 1, 0), 10, api.OK},
		{fullTable(), slices.Repeat(spouts(11, 0), 6), 6000, api.OK},
		{fullTable(), slices.Repeat(spouts(11, 0), 7), 0, api.ErrArg},
		{tableT(), spouts(3, 0), 0, api.ErrArg},
		{tableT(), spouts(0, 3), 0, api.ErrArg},
		{tableT(), spouts(-1, 0), 0, api.ErrArg},
		{tableT(), spouts(0, -1), 0, api.ErrArg},
		{tableT(), spouts(0, 0, 0, huge), 0, api.ErrArg},
		{tableT(), spouts(0, 0, -huge-1, 0), 0, api.ErrArg},
	} {
		if y, e := nozzle.Flow(x.t, x.spouts); y != x.want || e != x.e {
			t.Error(i, y, e)
		}
	}
	for i, x := range wrongTables() {
		if y, e := nozzle.Flow(x, nil); y != 0 || e != api.ErrArg {
			t.Error(i, y, e)
		}
	}
}

// P3.5: the chapter's examples, no nozzle, pipes that nothing tells apart, and errors in their order.
func TestSuspects(t *testing.T) {
	undrawn := table(0, tableT().Rows...)
	for i, x := range []struct {
		t     api.NozzleTable
		set   []int
		count api.Span
		most  int
		want  []api.NozzleWord
		e     api.Errno
	}{
		{tableT(), list(0, 1), span(35, 36), 1, words(surely, never), api.OK},
		{tableT(), list(0, 0), span(25, 25), 1, words(may, may), api.OK},
		{tableT(), list(0, 0), span(21, 24), 2, nil, api.ErrRule},
		{tableT(), list(0, 0), span(20, 20), 2, words(never, never), api.OK},
		{tableT(), list(0, 0), span(30, 30), 2, words(surely, surely), api.OK},
		{tableT(), list(0, 0), span(30, 30), 1, nil, api.ErrRule},
		{tableT(), list(0, 0), span(20, 20), 0, words(never, never), api.OK},
		{tableT(), list(0, 0), span(25, 25), 0, nil, api.ErrRule},
		{tableT(), list(0, 0), span(0, 10000), 1, words(may, may), api.OK},
		{tableT(), list(0, 0), span(0, 10000), 0, words(never, never), api.OK},
		{tableT(), list(0, 0), span(0, 19), 2, nil, api.ErrRule},
		{tableT(), list(0, 0), span(55, 10000), 2, nil, api.ErrRule},
		{tableT(), list(0, 0), span(54, 10000), 2, words(surely, surely), api.OK},
		// Three of them cannot be wider, and nothing is wider than the row 2.
		{tableT(), list(0, 0, 0), span(45, 45), 2, nil, api.ErrRule},
		{tableT(), list(0, 0, 2), span(0, 10000), 2, words(may, may, never), api.OK},
		{tableT(), list(0, 2, 2), span(101, 10000), 2, words(surely, never, never), api.OK},
		{tableT(), list(2, 2), span(90, 90), 2, words(never, never), api.OK},
		{tableT(), list(2, 2), span(91, 10000), 2, nil, api.ErrRule},
		{tableT(), nil, span(0, 0), 2, nil, api.OK},
		{tableT(), nil, span(1, 1), 2, nil, api.ErrRule},
		// With the Draw 0 a wider pipe gives no more, so that it is never sure.
		{undrawn, list(0, 2), span(55, 55), 1, words(may, never), api.OK},
		{undrawn, list(0, 2), span(55, 55), 0, words(never, never), api.OK},
		// A row that gives as much is not wider.
		{table(50, row(1, 1, 5), row(9, 9, 5)), list(0), span(5, 5), 2, words(never), api.OK},
		{table(50, row(1, 1, 5), row(9, 9, 4), row(1, 1, 6)), list(0), span(4, 5), 2, words(may), api.OK},
		{fullTable(), list(0, 2, 4, 6, 8, 11), span(6000, 6000), 2, words(never, never, never, never, never, never), api.OK},
		{tableT(), list(0, 0), span(21, 24), -1, nil, api.ErrArg},
		{tableT(), list(0, 0), span(21, 24), 3, nil, api.ErrArg},
		{tableT(), list(0, 0), span(25, 25), huge, nil, api.ErrArg},
		{tableT(), list(0, 0), span(25, 25), -huge - 1, nil, api.ErrArg},
	} {
		if y, e := nozzle.Suspects(x.t, x.set, x.count, x.most); !slices.Equal(y, x.want) || e != x.e {
			t.Error(i, y, e)
		}
	}
	for i, x := range wrongTables() {
		if y, e := nozzle.Suspects(x, nil, span(1, 1), 0); len(y) > 0 || e != api.ErrArg {
			t.Error(i, y, e)
		}
	}
	for i, set := range wrongSets() {
		if y, e := nozzle.Suspects(tableT(), set, span(0, 10000), 2); len(y) > 0 || e != api.ErrArg {
			t.Error(i, y, e)
		}
	}
	for i, count := range wrongCounts() {
		if y, e := nozzle.Suspects(tableT(), list(0), count, 2); len(y) > 0 || e != api.ErrArg {
			t.Error(i, y, e)
		}
	}
}

// P3.5: the chapter's examples, no nozzle, counts that nothing explains, and errors in their order.
func TestWidened(t *testing.T) {
	for i, x := range []struct {
		t     api.NozzleTable
		set   []int
		count api.Span
		want  int
		e     api.Errno
	}{
		{tableT(), list(0, 1), span(30, 30), 0, api.OK},
		{tableT(), list(0, 0), span(30, 30), 2, api.OK},
		{tableT(), list(0, 0), span(21, 24), 0, api.ErrNone},
		{tableT(), list(0, 1), span(31, 36), 1, api.OK},
		{tableT(), list(0, 1), span(30, 36), 0, api.OK},
		{tableT(), list(0, 1), span(43, 46), 0, api.ErrNone},
		{tableT(), list(0, 1), span(43, 47), 1, api.OK},
		{tableT(), list(0, 1), span(48, 10000), 2, api.OK},
		{tableT(), list(0, 0, 0), span(45, 45), 0, api.ErrNone},
		{tableT(), list(2), span(0, 44), 0, api.ErrNone},
		{tableT(), list(2), span(46, 10000), 0, api.ErrNone},
		{tableT(), nil, span(0, 10000), 0, api.OK},
		{tableT(), nil, span(1, 10000), 0, api.ErrNone},
		{fullTable(), list(0, 2, 4, 6, 8, 11), span(6000, 10000), 0, api.OK},
	} {
		if y, e := nozzle.Widened(x.t, x.set, x.count); y != x.want || e != x.e {
			t.Error(i, y, e)
		}
	}
	for i, x := range wrongTables() {
		if y, e := nozzle.Widened(x, nil, span(1, 1)); y != 0 || e != api.ErrArg {
			t.Error(i, y, e)
		}
	}
	for i, set := range wrongSets() {
		if y, e := nozzle.Widened(tableT(), set, span(9999, 10000)); y != 0 || e != api.ErrArg {
			t.Error(i, y, e)
		}
	}
	for i, count := range wrongCounts() {
		if y, e := nozzle.Widened(tableT(), list(0), count); y != 0 || e != api.ErrArg {
			t.Error(i, y, e)
		}
	}
}

// gives returns what a spout gives, as the chapter defines it.
func gives(t api.NozzleTable, x api.NozzleSpout) int {
	own, pipe := t.Rows[x.Nozzle].Gives, t.Rows[x.Pipe].Gives
	if pipe <= own {
		return pipe
	}
	drawn := 0
	for more := t.Draw * (pipe - own); more >= 100; more -= 100 {
		drawn++
	}
	return own + drawn
}

// allPipes goes through all lists of a pipe for each nozzle of a set.
func allPipes(t api.NozzleTable, set []int, try func([]api.NozzleSpout)) {
	var goOn func(chosen []api.NozzleSpout)
	goOn = func(chosen []api.NozzleSpout) {
		if len(chosen) == len(set) {
			try(chosen)
			return
		}
		for pipe := range t.Rows {
			goOn(append(slices.Clone(chosen), api.NozzleSpout{Nozzle: set[len(chosen)], Pipe: pipe}))
		}
	}
	goOn(nil)
}

// truth is a list of spouts that all together give some cups.
type truth struct {
	spouts []api.NozzleSpout
	cups   int
	wide   int
}

// allTruths returns what can be true of a set before it is counted, with any number of wider pipes.
func allTruths(t api.NozzleTable, set []int) []truth {
	var truths []truth
	allPipes(t, set, func(spouts []api.NozzleSpout) {
		x := truth{spouts: spouts}
		for _, s := range spouts {
			if t.Rows[s.Pipe].Gives > t.Rows[s.Nozzle].Gives {
				x.wide++
			} else if s.Pipe != s.Nozzle {
				return
			}
			x.cups += gives(t, s)
		}
		truths = append(truths, x)
	})
	return truths
}

// P3.5: spouts give what the chapter says, whatever is true what surely is so is so, and with fewer wider pipes there is no truth.
func TestAllTruths(t *testing.T) {
	r := rand.New(rand.NewPCG(3, 9))
	seen := map[api.Errno]int{}
	for range 600 {
		x := someTable(r, 5)
		set := someSet(r, x, 4)
		truths := allTruths(x, set)
		one := truths[r.IntN(len(truths))]
		count := someSpan(r, one.cups+r.IntN(2)*r.IntN(20), 10000)
		if y, e := nozzle.Flow(x, one.spouts); y != one.cups || e != api.OK {
			t.Error(x, one, y, e)
		}
		least, none := 0, api.ErrNone
		for most := 2; most >= 0; most-- {
			found, wide := 0, make([]int, len(set))
			for _, y := range truths {
				if y.wide > most || y.cups < count.Low || y.cups > count.High {
					continue
				}
				found++
				for k, s := range y.spouts {
					if s.Pipe != s.Nozzle {
						wide[k]++
					}
				}
			}
			var want []api.NozzleWord
			f := api.ErrRule
			if found > 0 {
				f, least, none = api.OK, most, api.OK
				for _, n := range wide {
					switch n {
					case 0:
						want = append(want, never)
					case found:
						want = append(want, surely)
					default:
						want = append(want, may)
					}
				}
			}
			seen[f]++
			if y, e := nozzle.Suspects(x, set, count, most); !slices.Equal(y, want) || e != f {
				t.Error(x, set, count, most, y, e, want)
			}
		}
		if y, e := nozzle.Widened(x, set, count); y != least || e != none {
			t.Error(x, set, count, y, e, least)
		}
	}
	if seen[api.OK] < 200 || seen[api.ErrRule] < 200 {
		t.Error("too few of either kind", seen)
	}
}

// P3.5: in a full set, and a table with all rows, nozzles of different sizes are told apart.
func TestManyTruths(t *testing.T) {
	x := table(100)
	for n := range 12 {
		x.Rows = append(x.Rows, row(1+n, 12-n, 1<<min(n, 9)))
	}
	// 1, 1, 2, 2, 4 and 4 are 14; only the rows 9 to 11 with 512 explain 14 - 4 + 512.
	set := list(0, 0, 1, 1, 2, 2)
	if y, e := nozzle.Suspects(x, set, span(522, 522), 1); !slices.Equal(y, words(never, never, never, never, may, may)) || e != api.OK {
		t.Error(y, e)
	}
	// One of the first two, and one of the last two: 14 - 1 - 4 + 256 + 512.
	if y, e := nozzle.Suspects(x, set, span(777, 777), 2); !slices.Equal(y, words(may, may, never, never, may, may)) || e != api.OK {
		t.Error(y, e)
	}
	if y, e := nozzle.Widened(x, set, span(777, 777)); y != 2 || e != api.OK {
		t.Error(y, e)
	}
}
