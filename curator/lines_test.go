package curator_test

import (
	"math/rand/v2"
	"slices"
	"strconv"
	"strings"
	"testing"

	"quinaria/api"
	"quinaria/curator"
)

func sameEntry(a, b api.CuratorEntry) bool {
	return a.Kind == b.Kind && slices.Equal(a.Numbers, b.Numbers)
}

// formed are entries of all kinds that are formed, with numbers at their limits.
func formed() (all []api.CuratorEntry) {
	_, many := words()
	for k, n := range many[1:] {
		for _, numbers := range [][]int{list(0, 0, 0), list(36500, 36500, 36500), list(1, 20, 300), list(9, 0, 10), list(10000, 9999, 1)} {
			all = append(all, entry(api.CuratorKind(k+1), numbers[:n]...))
		}
	}
	return all
}

// P10.8, P0.11: what was written is parsed as what was written, and what was parsed is written the same.
func TestWriteAndParse(t *testing.T) {
	lines, _ := words()
	for _, x := range formed() {
		line, e := curator.Write(x)
		if want := joined(lines[x.Kind], x.Numbers...); line != want || e != api.OK {
			t.Errorf("%q %q %v", line, want, e)
		}
		if y, e := curator.Parse(line); !sameEntry(x, y) || e != api.OK {
			t.Error(x, y, e)
		}
	}
	for _, line := range []string{"wait 30", "give 0 1 20", "attach 0 1 10", "die 0 3", "sell 0 1", "divide 1 5 2", "join 0 1", "renew 0 3", "ask 2 1 40", "move 1", "clean 0", "count 0 100 104", "forget", "inflow 20", "undo"} {
		x, e := curator.Parse(line)
		if y, f := curator.Write(x); y != line || e != api.OK || f != api.OK || !sameEntry(x, entered(line)) {
			t.Error(line, x, y, e, f)
		}
	}
	if x, e := curator.Parse("count 0 100 104"); x.Kind != api.CuratorCount || !slices.Equal(x.Numbers, list(0, 100, 104)) || e != api.OK {
		t.Error(x, e)
	}
}

// P10.8: entries that are not formed have no line.
func TestWriteUnformed(t *testing.T) {
	for _, x := range unformed() {
		if line, e := curator.Write(x); line != "" || e != api.ErrArg {
			t.Errorf("%v %q %v", x, line, e)
		}
	}
}

// wrongLines are lines, not too long, that are none of entries that are formed.
func wrongLines() []string {
	wrong := []string{
		"", " ", "\n", "x", "0", "wait", "wait ", "wait 1 ", " wait 1", "wait  1", "wait 1 2", "wait 01", "wait 00", "wait +1", "wait -1", "wait -0", "wait 1.0", "wait 1e1", "wait 0x1", "wait x", "wait 36501", "wait 36510", "wait 99999", "wait 100000",
		"wait 036500", "wait 18446744073709551617", "wait\t1", "wait 1\n", "wait 1\r", "\nwait 1", "wait 1\x00", "wait \xff", "wait ١", "wait １", "Wait 1", "WAIT 1", "wai 1", "waits 1", "wait1", "undo 1", "undo ", " undo", "undo\n", "undo undo", "forget 0",
		"give 0 1", "give 0 1 20 0", "give 0 1 36501", "give 36501 1 20", "give 0 36501 20", "give 0 1 020", "give 0 1  20", "die 0", "die 0 3 1", "divide 1 5", "count 0 100", "count 0 100 104 1", "day", "water", "holds 0 1", "stands", "grants", "noted", "error 4", "wait 1;wait 1",
		strings.Repeat("x", 40), strings.Repeat(" ", 40), "wait " + strings.Repeat("1", 35), "wait " + strings.Repeat("0", 35), strings.Repeat("é", 20),
	}
	lines, many := words()
	for k, n := range many[1:] {
		for numbers := range 5 {
			if numbers != n {
				wrong = append(wrong, joined(lines[k+1], slices.Repeat(list(1), numbers)...))
			}
		}
	}
	return wrong
}

// P10.8: lines that are too long, and those of no entry that is formed.
func TestParseWrongLines(t *testing.T) {
	for _, line := range wrongLines() {
		if x, e := curator.Parse(line); x.Kind != 0 || len(x.Numbers) > 0 || e != api.ErrText {
			t.Errorf("%q %v %v", line, x, e)
		}
	}
	for _, line := range []string{strings.Repeat("x", 41), "wait 1" + strings.Repeat(" ", 35), strings.Repeat("\n", 41), "count 100 200 " + strings.Repeat("3", 100000), strings.Repeat("é", 21)} {
		if x, e := curator.Parse(line); x.Kind != 0 || len(x.Numbers) > 0 || e != api.ErrLong {
			t.Errorf("%q %v %v", line, x, e)
		}
	}
}

// P10.8: a line is parsed just if it is what is written of its entry.
func TestParseAnyLine(t *testing.T) {
	r := rand.New(rand.NewPCG(10, 8))
	lines, many := words()
	parsed := 0
	for range 20000 {
		k := 1 + r.IntN(15)
		var words []string
		for range many[k] + list(0, 0, 0, 1, -1)[r.IntN(5)] {
			words = append(words, strconv.Itoa(list(0, 7, 36500, 36501, r.IntN(40000), r.IntN(400000))[r.IntN(6)]))
		}
		line := []byte(strings.Join(append([]string{lines[k]}, words...), " "))
		if r.IntN(3) == 0 {
			line[r.IntN(len(line))] = " 0123456789-wait\n"[r.IntN(17)]
		}
		x, e := curator.Parse(string(line))
		if e != api.OK {
			continue
		}
		parsed++
		if y, f := curator.Write(x); y != string(line) || f != api.OK {
			t.Errorf("%q %v %q %v", line, x, y, f)
		}
	}
	if parsed < 1000 {
		t.Error("too few for a test", parsed)
	}
	for n := range 40000 {
		x, e := curator.Parse("wait " + strconv.Itoa(n))
		if right := n <= 36500; right != (e == api.OK) || right && !sameEntry(x, entry(api.CuratorWait, n)) {
			t.Error(n, x, e)
		}
	}
}
