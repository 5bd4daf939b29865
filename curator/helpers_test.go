package curator_test

import (
	"slices"
	"strconv"
	"strings"
	"testing"

	"quinaria/api"
	"quinaria/curator"
)

const huge = int(^uint(0) >> 1)

func list(n ...int) []int { return n }

func entry(k api.CuratorKind, n ...int) api.CuratorEntry {
	return api.CuratorEntry{Kind: k, Numbers: n}
}

func question(k api.CuratorTopic, n ...int) api.CuratorQuestion {
	return api.CuratorQuestion{Kind: k, Numbers: n}
}

// words are the words of all kinds of entries, from 1 on, and how many numbers come behind them.
func words() ([]string, []int) {
	return []string{"", "wait", "give", "attach", "die", "sell", "divide", "join", "renew", "ask", "move", "clean", "count", "forget", "inflow", "undo"},
		list(0, 1, 3, 3, 2, 2, 3, 2, 2, 3, 1, 1, 3, 0, 1, 0)
}

// topics are the words of all kinds of questions, from 1 on, and how many numbers come behind them.
func topics() ([]string, []int) {
	return []string{"", "day", "water", "grants", "waiting", "holds", "gates", "moves", "since", "oldest", "tapped", "next", "shares", "why", "stands"},
		list(0, 0, 0, 0, 0, 2, 0, 1, 1, 0, 0, 1, 0, 1, 0)
}

// joined returns a word and numbers, with blanks between them.
func joined(word string, n ...int) string {
	all := []string{word}
	for _, x := range n {
		all = append(all, strconv.Itoa(x))
	}
	return strings.TrimPrefix(strings.Join(all, " "), " ")
}

// asked returns the question of a line.
func asked(line string) api.CuratorQuestion {
	all, _ := topics()
	word, n := split(line)
	return question(api.CuratorTopic(slices.Index(all, word)), n...)
}

// entered returns the entry of a line.
func entered(line string) api.CuratorEntry {
	all, _ := words()
	word, n := split(line)
	return entry(api.CuratorKind(slices.Index(all, word)), n...)
}

// split returns the word of a line, and its numbers.
func split(line string) (string, []int) {
	all := strings.Split(line, " ")
	var n []int
	for _, x := range all[1:] {
		y, _ := strconv.Atoi(x)
		n = append(n, y)
	}
	return all[0], n
}

// changed returns a suite in memory of its own, with some change.
func changed(s api.CuratorSuite, change func(*api.CuratorSuite)) api.CuratorSuite {
	s.Register.Table.Rows, s.Register.Owners, s.Register.Events = slices.Clone(s.Register.Table.Rows), slices.Clone(s.Register.Owners), slices.Clone(s.Register.Events)
	s.Net.Points, s.Net.Channels, s.Open = slices.Clone(s.Net.Points), slices.Clone(s.Net.Channels), slices.Clone(s.Open)
	s.Line.Gives, s.Line.Counts = slices.Clone(s.Line.Gives), slices.Clone(s.Line.Counts)
	s.Tree.Nodes, s.Tree.Outlets = slices.Clone(s.Tree.Nodes), slices.Clone(s.Tree.Outlets)
	change(&s)
	return s
}

// suiteS is the chapter's suite s.
func suiteS() api.CuratorSuite {
	return api.CuratorSuite{
		Register: api.GrantBook{
			Table:  api.NozzleTable{Draw: 50, Rows: []api.NozzleRow{{First: 5, Second: 4, Gives: 10}, {First: 10, Second: 8, Gives: 20}, {First: 20, Second: 15, Gives: 45}}},
			Supply: 100, Term: 30, Persons: 4, Owners: list(0, 1),
		},
		Net: api.GateNet{
			Points: []api.GatePoint{{Spring: api.Span{Low: 100, High: 120}}, {}, {Need: 40}, {Need: 50}},
			Channels: []api.GateChannel{
				{From: 0, To: 1, Cups: 100, Gate: true}, {From: 0, To: 1, Cups: 95, Gate: true}, {From: 1, To: 2, Cups: 50},
				{From: 1, To: 3, Cups: 60, Gate: true}, {From: 2, To: 3, Cups: 30, Gate: true},
			},
		},
		Open: list(0, 3),
		Line: api.LeakLine{Gives: list(10, 0, 20), Least: 5, Most: 15, Taps: 1},
		Tree: api.DroughtTree{
			Inflow: 10, Nodes: []api.DroughtNode{{Parent: 0, Cap: 6}, {Parent: 1, Cap: 3}},
			Outlets: []api.DroughtOutlet{{Node: 2, Claim: 4}, {Node: 1, Claim: 5}, {Node: 0, Claim: 6, Class: 1}, {Node: 2, Claim: 2, Class: 1}},
		},
	}
}

// smallSuite is a suite with as little of everything as there can be.
func smallSuite() api.CuratorSuite {
	return api.CuratorSuite{
		Register: api.GrantBook{Table: api.NozzleTable{Rows: []api.NozzleRow{{First: 1, Second: 1, Gives: 1}}}, Persons: 1},
		Net:      api.GateNet{Points: []api.GatePoint{{}}},
		Line:     api.LeakLine{Gives: list(0), Least: 1, Most: 1},
		Tree:     api.DroughtTree{Outlets: []api.DroughtOutlet{{Claim: 1}}},
	}
}

// fullSuite is a suite with as much of everything as there can be. Its network is a ring with a gate everywhere but in three places, and needs nothing.
func fullSuite() api.CuratorSuite {
	s := api.CuratorSuite{
		Register: api.GrantBook{Table: api.NozzleTable{Draw: 100}, Supply: 10000, Term: 1000, Persons: 8, Owners: list(7, 6, 5, 4, 3, 2)},
		Net:      api.GateNet{Points: slices.Repeat([]api.GatePoint{{Spring: api.Span{Low: 0, High: 10000}}}, 7)},
		Open:     list(1, 2, 4, 5, 7, 8, 9),
		Line:     api.LeakLine{Gives: list(60, 60, 60, 60, 60), Least: 1, Most: 60, Taps: 2},
		Tree:     api.DroughtTree{Inflow: 200, Outlets: slices.Repeat([]api.DroughtOutlet{{Node: 6, Claim: 200, Class: 3}}, 8)},
	}
	for i := range 12 {
		s.Register.Table.Rows = append(s.Register.Table.Rows, api.NozzleRow{First: 60 - i, Second: 49 + i, Gives: 1000 - 7*i})
	}
	for k := range 10 {
		s.Net.Channels = append(s.Net.Channels, api.GateChannel{From: k % 7, To: (k + 1) % 7, Cups: 10000, Gate: slices.Contains(s.Open, k)})
	}
	for i := range 6 {
		s.Tree.Nodes = append(s.Tree.Nodes, api.DroughtNode{Parent: i, Cap: 200})
	}
	return s
}

// otherSuite is the suite s with more to grant, estates of one owner, another gate that must be open, and no inflow.
func otherSuite() api.CuratorSuite {
	return changed(suiteS(), func(s *api.CuratorSuite) {
		s.Register.Owners, s.Register.Supply, s.Register.Term = list(2, 2, 2), 400, 3
		s.Net.Points[2].Need, s.Net.Points[3].Need = 20, 30
		s.Net.Channels[2].Gate, s.Net.Channels[4].Gate, s.Open = true, false, list(0, 2)
		s.Line.Taps, s.Tree.Inflow = 2, 0
	})
}

// ourSuites are suites of all kinds.
func ourSuites() []api.CuratorSuite {
	return []api.CuratorSuite{suiteS(), smallSuite(), fullSuite(), otherSuite()}
}

// wrongSuites are suites each of which is not as defined in one way.
func wrongSuites() (wrong []api.CuratorSuite) {
	for _, change := range []func(s *api.CuratorSuite){
		func(s *api.CuratorSuite) { *s = api.CuratorSuite{} },
		func(s *api.CuratorSuite) { s.Register = api.GrantBook{} },
		func(s *api.CuratorSuite) { s.Register.Table.Rows[1].First = 61 },
		func(s *api.CuratorSuite) { s.Register.Persons = 9 },
		func(s *api.CuratorSuite) { s.Register.Owners = list(0, 4) },
		func(s *api.CuratorSuite) { s.Register.Supply = -1 },
		func(s *api.CuratorSuite) {
			s.Register.Events = []api.GrantEvent{{Kind: api.GrantGive, System: 1, Units: 5}}
		},
		func(s *api.CuratorSuite) { s.Register.Events = make([]api.GrantEvent, 1) },
		func(s *api.CuratorSuite) { s.Net = api.GateNet{} },
		func(s *api.CuratorSuite) { s.Net.Channels[2].To = 4 },
		func(s *api.CuratorSuite) { s.Net.Points[1].Need = -1 },
		func(s *api.CuratorSuite) { s.Open = list(0, 2, 3) },
		func(s *api.CuratorSuite) { s.Open = list(3, 0) },
		func(s *api.CuratorSuite) { s.Open = list(0, 3, 3) },
		func(s *api.CuratorSuite) { s.Open = list(0, 3, 5) },
		func(s *api.CuratorSuite) { s.Open = list(-1, 0, 3) },
		func(s *api.CuratorSuite) { s.Open = list(0, 4) },
		func(s *api.CuratorSuite) { s.Open = nil },
		func(s *api.CuratorSuite) { s.Net.Points[0].Spring.Low = 80 },
		func(s *api.CuratorSuite) { s.Line = api.LeakLine{} },
		func(s *api.CuratorSuite) { s.Line.Least = 16 },
		func(s *api.CuratorSuite) { s.Line.Gives = make([]int, 6) },
		func(s *api.CuratorSuite) { s.Line.Counts = []api.LeakCount{{Point: 0, Low: 100, High: 104}} },
		func(s *api.CuratorSuite) { s.Line.Counts = []api.LeakCount{{Point: 9}} },
		func(s *api.CuratorSuite) { s.Tree = api.DroughtTree{} },
		func(s *api.CuratorSuite) { s.Tree.Inflow = 201 },
		func(s *api.CuratorSuite) { s.Tree.Outlets[3].Class = 4 },
		func(s *api.CuratorSuite) { s.Tree.Nodes[0].Parent = 1 },
	} {
		wrong = append(wrong, changed(suiteS(), change))
	}
	for _, n := range list(-1, huge, -huge-1) {
		for _, field := range []func(*api.CuratorSuite) *int{
			func(s *api.CuratorSuite) *int { return &s.Register.Term }, func(s *api.CuratorSuite) *int { return &s.Register.Owners[0] },
			func(s *api.CuratorSuite) *int { return &s.Net.Channels[0].Cups }, func(s *api.CuratorSuite) *int { return &s.Open[1] },
			func(s *api.CuratorSuite) *int { return &s.Line.Taps }, func(s *api.CuratorSuite) *int { return &s.Tree.Nodes[1].Cap },
		} {
			wrong = append(wrong, changed(suiteS(), func(s *api.CuratorSuite) { *field(s) = n }))
		}
	}
	return wrong
}

// deskOf returns a desk of a suite at which all lines were entered that are given.
func deskOf(t *testing.T, s api.CuratorSuite, lines ...string) *curator.Desk {
	t.Helper()
	d, e := curator.Open(s)
	if e != api.OK {
		t.Fatal(e)
	}
	for i, line := range lines {
		if e := d.Enter(entered(line)); e != api.OK {
			t.Fatal(i, line, e)
		}
	}
	return d
}

// ourQuestions are questions of all kinds, also those that no desk of a suite answers.
func ourQuestions() (all []api.CuratorQuestion) {
	_, many := topics()
	for k := range many {
		if k > 0 && many[k] == 0 {
			all = append(all, question(api.CuratorTopic(k)))
		}
	}
	for _, n := range list(-1, 0, 1, 2, 3, 4, 6, 8, 9, 10, 20, 21, 36501, huge, -huge-1) {
		all = append(all, question(api.CuratorMoves, n), question(api.CuratorSince, n), question(api.CuratorWhy, n), question(api.CuratorNext, n), question(api.CuratorHolds, n, 1), question(api.CuratorHolds, 0, n))
		if n < 4 {
			all = append(all, question(api.CuratorHolds, n, 2))
		}
	}
	return all
}

// told is an answer with its error.
type told struct {
	numbers []int
	e       api.Errno
}

func sameTold(a, b told) bool { return a.e == b.e && slices.Equal(a.numbers, b.numbers) }

// answers returns what a desk answers, question by question.
func answers(d *curator.Desk, all []api.CuratorQuestion) (out []told) {
	for _, q := range all {
		n, e := d.Ask(q)
		out = append(out, told{n, e})
	}
	return out
}

// ask returns the line that answers the question of a line.
func ask(t *testing.T, d *curator.Desk, line string) string {
	t.Helper()
	n, e := d.Ask(asked(line))
	if e != api.OK {
		if len(n) > 0 {
			t.Error(line, n, e)
		}
		return joined("error", int(e))
	}
	if len(n) == 0 {
		return "nothing"
	}
	return joined("", n...)
}

// journal returns the journal of a desk, line by line.
func journal(t *testing.T, d *curator.Desk) []string {
	t.Helper()
	text, e := d.Journal()
	if e != api.OK {
		t.Fatal(e)
	}
	if text == "" {
		return nil
	}
	rest, ended := strings.CutSuffix(text, "\n")
	if !ended {
		t.Errorf("%q", text)
	}
	return strings.Split(rest, "\n")
}
