package written_test

import (
	"slices"
	"strconv"
	"strings"
	"testing"

	"quinaria/written"
)

// The chapters' texts with their CHECK, and one whose sum is 0.
func TestTextAndLines(t *testing.T) {
	for i, x := range []struct {
		lines   []string
		modulus int
		text    string
	}{
		{[]string{"survey 2", "sight 0 1 4 0"}, 149, "survey 2\nsight 0 1 4 0\nend 012\n"},
		{[]string{"castle 8 1", "nozzle 0 5"}, 127, "castle 8 1\nnozzle 0 5\nend 038\n"},
		{[]string{"line 1 1 0", "stretch 0"}, 157, "line 1 1 0\nstretch 0\nend 051\n"},
		{[]string{""}, 157, "\nend 000\n"},
		{[]string{"\xff"}, 149, "\xff\nend 106\n"},
	} {
		if y := written.Text(x.lines, x.modulus); y != x.text {
			t.Errorf("%d: %q", i, y)
		}
		if y, right := written.Lines(x.text, x.modulus); !slices.Equal(y, x.lines) || !right {
			t.Errorf("%d: %q %v", i, y, right)
		}
	}
}

// Strings that do not end with the line that they should have, or have none before it.
func TestWrongLines(t *testing.T) {
	right := "line 1 1 0\nstretch 0\nend 051\n"
	wrong := []string{"", "\n", "end 000\n", "end 000", "line 1 1 0\n", right[1:], right[:len(right)-1], right + "\n", "\n" + right, strings.ReplaceAll(right, "\n", "\r\n")}
	for _, end := range []string{"", "end", "end ", "end 51", "end 0051", "end 050", "end 052", "end 208", "end 051 ", " end 051", "end  051", "End 051", "end 051 0"} {
		wrong = append(wrong, strings.Replace(right, "end 051", end, 1))
	}
	for _, x := range wrong {
		if y, right := written.Lines(x, 157); len(y) > 0 || right {
			t.Errorf("%q: %q %v", x, y, right)
		}
	}
}

// A last line alone is right only where there can be no lines before it.
func TestLinesOrNone(t *testing.T) {
	for _, x := range []string{"end 000\n", "\nend 000\n", "line 1 1 0\nend 051\n", "end 001\n", "end 000", "end 000\n\n", "\n", ""} {
		lines, right := written.Lines(x, 157)
		others, rightToo := written.LinesOrNone(x, 157)
		if rightToo != (right || x == "end 000\n") || !slices.Equal(lines, others) {
			t.Errorf("%q: %q %v %q %v", x, lines, right, others, rightToo)
		}
	}
}

// A list of lines with room behind them is not written to.
func TestTextChangesNothing(t *testing.T) {
	lines := []string{"one", "two"}
	written.Text(lines[:1], 157)
	if lines[1] != "two" {
		t.Error(lines)
	}
}

func TestLineAndNumbers(t *testing.T) {
	for i, x := range []struct {
		numbers []int
		line    string
	}{{nil, "row"}, {[]int{0}, "row 0"}, {[]int{1, 20, 999}, "row 1 20 999"}} {
		if y := written.Line("row", x.numbers...); y != x.line {
			t.Errorf("%d: %q", i, y)
		}
		if y, right := written.Numbers(x.line, "row", 3); !slices.Equal(y, x.numbers) || !right {
			t.Errorf("%d: %v %v", i, y, right)
		}
	}
	for _, x := range []string{"", " ", "ro", "rows", "rows 1", "Row 1", "row1", " row 1", "row ", "row  1", "row 1 ", "row 1  2", "row\t1", "row 1 x", "row 1 1000", "row 01 1", "1"} {
		if y, right := written.Numbers(x, "row", 3); len(y) > 0 || right {
			t.Errorf("%q: %v %v", x, y, right)
		}
	}
}

func TestNumber(t *testing.T) {
	for n := range 1000 {
		if y, right := written.Number(strconv.Itoa(n), 3); y != n || !right {
			t.Error(n, y, right)
		}
	}
	for _, x := range []string{"", "00", "01", "000", "-1", "+1", "-0", " 1", "1 ", "1x", "x1", "1.0", "1e1", "0x1", "1_0", "/", ":", "٣", "7３", "\xff", "1\x00", "1000", "99999999999999999999"} {
		if y, right := written.Number(x, 3); y != 0 || right {
			t.Errorf("%q: %v %v", x, y, right)
		}
	}
	if y, right := written.Number("1000", 4); y != 1000 || !right {
		t.Error(y, right)
	}
}
