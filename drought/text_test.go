package drought_test

import (
	"math/rand/v2"
	"slices"
	"strconv"
	"strings"
	"testing"

	"quinaria/api"
	"quinaria/drought"
)

// text returns lines with the CHECK that they should have.
func text(lines ...string) string {
	sum := 0
	for i, line := range lines {
		for j := range len(line) {
			sum += (i + 1) * (j + 1) * int(line[j])
		}
	}
	check := "00" + strconv.Itoa(sum%163)
	return strings.Join(lines, "\n") + "\nend " + check[len(check)-3:] + "\n"
}

// P7.7: the chapter's text, those of its tree t, and of the greatest numbers.
func TestPrint(t *testing.T) {
	for i, x := range []struct {
		t    api.DroughtTree
		want string
	}{
		{smallTree(), "drought 1\noutlet 0 1 0\nend 017\n"},
		{treeT(), text("drought 10", "node 0 6", "node 1 3", "outlet 2 4 0", "outlet 1 5 0", "outlet 0 6 1", "outlet 2 2 1")},
		{treeU(), text("drought 20", "node 0 6", "node 1 3", "outlet 2 4 0", "outlet 1 5 0", "outlet 0 6 1", "outlet 2 2 1")},
		{fullTree(), text(slices.Concat(words("drought 200", "node 0 200", "node 1 200", "node 2 200", "node 3 200", "node 4 200", "node 5 200"), slices.Repeat(words("outlet 6 200 3"), 8))...)},
		{dryTree(), text("drought 0", "node 0 9", "outlet 1 4 1", "outlet 0 200 0")},
	} {
		if y, e := drought.Print(x.t); y != x.want || e != api.OK {
			t.Errorf("%d: %q %v", i, y, e)
		}
	}
	for i, x := range wrongTrees() {
		if y, e := drought.Print(x); y != "" || e != api.ErrArg {
			t.Errorf("%d: %q %v", i, y, e)
		}
	}
}

func words(x ...string) []string { return x }

// P7.7, P0.11: what was written is read as what was written, also of the longest texts.
func TestReadOfPrint(t *testing.T) {
	for _, x := range someTrees(rand.New(rand.NewPCG(7, 16)), 500) {
		text, e := drought.Print(x)
		y, f := drought.Read(text)
		if e != api.OK || f != api.OK || !sameTree(x, y) {
			t.Errorf("%q %v %v %v", text, y, e, f)
		}
	}
}

// P7.7: one digit that was changed is noticed.
func TestChangedDigits(t *testing.T) {
	for _, x := range someTrees(rand.New(rand.NewPCG(7, 17)), 20) {
		text, _ := drought.Print(x)
		for i := range text {
			for digit := '0'; digit <= '9' && '0' <= text[i] && text[i] <= '9'; digit++ {
				changed := text[:i] + string(digit) + text[i+1:]
				if y, e := drought.Read(changed); changed != text && (e != api.ErrText || !isNone(y)) {
					t.Errorf("%q %v %v", changed, y, e)
				}
			}
		}
	}
}

// wrongLinesOf returns what is no line with a word and some numbers, each of which is 1 where it can be.
func wrongLinesOf(word string, numbers int) []string {
	right := word + strings.Repeat(" 1", numbers)
	wrong := []string{
		"", word, word + " ", right + " ", " " + right, right + " 1", strings.TrimSuffix(right, " 1"), strings.Replace(right, " ", "  ", 1), strings.Replace(right, " ", "\t", 1),
		strings.Replace(right, " ", "", 1), strings.TrimPrefix(right, word+" "), "1 " + right, "x" + right, word + "s" + right[len(word):], strings.ToUpper(right), right[1:], right + "\r", right + "\x00",
	}
	for _, digits := range []string{"01", "00", "001", "+1", "-1", "-0", "x", "1x", "1.0", "1,0", "1000", "99999999999999999999", "0x1", "1_0", "/", ":", "１", "٣", "\xff", ""} {
		for i := range numbers {
			wrong = append(wrong, word+strings.Repeat(" 1", i)+" "+digits+strings.Repeat(" 1", numbers-1-i))
		}
	}
	return wrong
}

// noTexts are strings that have not the form of a text, most of them with the CHECK that they should have.
func noTexts() []string {
	first, channel, one := "drought 1", "node 0 1", "outlet 1 1 1"
	right := text(first, channel, one)
	all := []string{
		"", "\n", "\n\n", "end 000\n", text(""), "drought 1\n", "drought 1\noutlet 0 1 0\n", right[1:], right[:len(right)-1], right + "\n", "\n" + right, right + right,
		strings.ReplaceAll(right, "\n", "\r\n"), strings.TrimSuffix(right, right[strings.Index(right, "end"):]), "\xff\xfe",
		strings.Repeat("x", 400), strings.Repeat("\n", 400), strings.Repeat(" ", 400),
		text(channel), text(one), text(channel, one), text(channel, first, one), text(one, first), text(first, first, one), text("", first, one), text(first, "", one), text(first, one, ""),
		text(first, one, channel), text(first, channel, one, channel), text(first, one, channel, one), text(first, channel, first, one), text(first, channel, one, first),
		text(first, one, "end 051"), text(first, "end", one), text(first, "end 000"), text(first, "node 0 1 1", one), text(first, "outlet 1 1"), text(first, "drought 1"), text("drought", one),
		text("node 1", one), text("outlet 1", one), text(first, "channel 0 1", one),
	}
	small := "drought 1\noutlet 0 1 0\nend 017\n"
	for _, end := range []string{"", "end", "end ", "end 17", "end 0017", "end 016", "end 018", "end 180", "end 343", "end -17", "end 017 ", " end 017", "end  017", "End 017", "end\t017", "end 017 0", "end 01７", "017", "end 017\nend 017"} {
		all = append(all, strings.Replace(small, "end 017", end, 1))
	}
	for _, wrong := range wrongLinesOf("drought", 1) {
		all = append(all, text(wrong, channel, one))
	}
	for _, wrong := range append(wrongLinesOf("node", 2), wrongLinesOf("outlet", 3)...) {
		all = append(all, text(first, wrong), text(first, channel, wrong), text(first, wrong, one), text(first, channel, one, wrong), text(first, channel, one, wrong, one))
	}
	return all
}

// P7.7: strings that have not the form are no texts.
func TestReadOfNoText(t *testing.T) {
	if y, e := drought.Read(text("drought 1", "node 0 1", "outlet 1 1 1")); e != api.OK || !sameTree(y, tree(1, nodes(0, 1), 1, 1, 1)) {
		t.Error(y, e)
	}
	for i, x := range noTexts() {
		if y, e := drought.Read(x); e != api.ErrText || !isNone(y) {
			t.Errorf("%d: %q %v %v", i, x, y, e)
		}
	}
}

// manyOutlets returns a text of so many bytes, the first of whose 29 outlets claim more.
func manyOutlets(size int) string {
	lines := append([]string{"drought 10"}, slices.Repeat([]string{"outlet 0 1 0"}, 29)...)
	for i := len(text(lines...)); i < size; i++ {
		line := 1 + (size-i)/2
		lines[line] = strings.Replace(lines[line], "1", "11", 1)
	}
	return text(lines...)
}

// P7.7: a text has the form with any number of nodes and outlets, and with any numbers; what is too long comes first.
func TestReadOfWrongTrees(t *testing.T) {
	if len(manyOutlets(400)) != 400 || len(manyOutlets(401)) != 401 {
		t.Error(len(manyOutlets(400)), len(manyOutlets(401)))
	}
	many := func(channels, outlets int) string {
		return text(slices.Concat([]string{"drought 7"}, slices.Repeat([]string{"node 0 5"}, channels), slices.Repeat([]string{"outlet 0 3 1"}, outlets))...)
	}
	one := "outlet 0 1 0"
	for i, x := range []struct {
		text string
		e    api.Errno
	}{
		{text("drought 1"), api.ErrArg}, {text("drought 1", "node 0 1"), api.ErrArg}, {text("drought 200", one), api.OK}, {text("drought 201", one), api.ErrArg}, {text("drought 0", one), api.OK},
		{text("drought 1", "node 0 200", one), api.OK}, {text("drought 1", "node 0 201", one), api.ErrArg}, {text("drought 1", "node 1 0", one), api.ErrArg}, {text("drought 1", "node 0 0", "node 1 0", one), api.OK},
		{text("drought 1", "node 0 0", "node 2 0", one), api.ErrArg}, {text("drought 1", "outlet 1 1 0"), api.ErrArg}, {text("drought 1", "node 0 0", "outlet 1 1 0"), api.OK}, {text("drought 1", "outlet 0 0 0"), api.ErrArg},
		{text("drought 1", "outlet 0 201 0"), api.ErrArg}, {text("drought 1", "outlet 0 1 4"), api.ErrArg}, {text("drought 1", "outlet 0 200 3"), api.OK},
		{text("drought 999", "node 999 999", "outlet 999 999 999"), api.ErrArg}, {text("drought 999", "node 999 999", "outlet 999 999 1000"), api.ErrText},
		{many(6, 8), api.OK}, {many(7, 8), api.ErrArg}, {many(6, 9), api.ErrArg}, {many(6, 0), api.ErrArg}, {many(0, 8), api.OK}, {many(0, 29), api.ErrArg}, {many(40, 1), api.ErrArg},
		{manyOutlets(400), api.ErrArg}, {manyOutlets(401), api.ErrLong}, {many(100, 0), api.ErrLong}, {strings.Repeat("x", 401), api.ErrLong}, {strings.Repeat("\n", 100000), api.ErrLong},
	} {
		y, e := drought.Read(x.text)
		if e != x.e || e != api.OK && !isNone(y) {
			t.Errorf("%d: %q %v %v", i, x.text, y, e)
		}
	}
}
