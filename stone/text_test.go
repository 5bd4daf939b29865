package stone_test

import (
	"math/rand/v2"
	"slices"
	"strconv"
	"strings"
	"testing"

	"quinaria/api"
	"quinaria/stone"
)

// text returns lines with the CHECK that they should have.
func text(lines ...string) string {
	sum, all := 0, ""
	for i, line := range lines {
		for j := range len(line) {
			sum += (i + 1) * (j + 1) * int(line[j])
		}
		all += line + "\n"
	}
	check := strconv.Itoa(1000 + sum%167)
	return all + "end " + check[1:] + "\n"
}

const smallText = "stones 1 1 2 2\nmark -\nmark 5\ngap 1 1\nend 061\n"

// P9.8: the chapter's book, those of its lines, and of the greatest numbers; also of lines that are not possible.
func TestPrint(t *testing.T) {
	for i, x := range []struct {
		l    api.StoneLine
		want string
	}{
		{smallLine(), smallText}, {lineA(), text("stones 90 110 50 52", "mark 7", "mark -", "mark 1?", "old 3?", "gap 95 105", "gap 290 310", "gap 190 330")},
		{lineB(), text("stones 90 110 50 52", "mark 7", "mark -", "mark 12", "old 3?", "gap 95 105", "gap 290 310", "gap 190 330")}, {line("o- o??", 1, 500, 190, 200, 1, 50000), text("stones 1 500 190 200", "old -", "old ??", "gap 1 50000")},
		{fullLine(), text(slices.Concat([]string{"stones 500 500 190 200"}, slices.Repeat([]string{"mark ??"}, 8), slices.Repeat([]string{"gap 50000 50000"}, 7))...)}, {line("0 00", 7, 8, 9, 10, 11, 12), text("stones 7 8 9 10", "mark 0", "mark 00", "gap 11 12")},
		{line("o?1 1? ?", 10, 100, 200, 200, 1, 9999, 10000, 10001), text("stones 10 100 200 200", "old ?1", "mark 1?", "mark ?", "gap 1 9999", "gap 10000 10001")},
	} {
		if y, e := stone.Print(x.l); y != x.want || e != api.OK {
			t.Errorf("%d: %q %v", i, y, e)
		}
	}
	for i, l := range wrongLines() {
		if y, e := stone.Print(l); y != "" || e != api.ErrArg {
			t.Errorf("%d: %q %v", i, y, e)
		}
	}
}

// someWritten returns lines of all kinds, also with Texts that no number has.
func someWritten(r *rand.Rand, many int) []api.StoneLine {
	all := ourLines()
	for len(all) < many {
		all = append(all, misread(r, someLine(r, 2+r.IntN(7), r.IntN(200)), r.IntN(3)))
	}
	return all
}

// P9.8, P0.11: what was written is read as what was written.
func TestReadOfPrint(t *testing.T) {
	for _, l := range someWritten(rand.New(rand.NewPCG(9, 12)), 800) {
		text, e := stone.Print(l)
		y, f := stone.Read(text)
		if e != api.OK || f != api.OK || !sameLine(y, l) {
			t.Errorf("%q %v %v %v", text, y, e, f)
		}
	}
}

// P9.8: one digit that was changed is noticed.
func TestChangedDigits(t *testing.T) {
	for _, l := range someWritten(rand.New(rand.NewPCG(9, 13)), 40) {
		text, _ := stone.Print(l)
		for i := range text {
			for digit := '0'; digit <= '9' && '0' <= text[i] && text[i] <= '9'; digit++ {
				changed := text[:i] + string(digit) + text[i+1:]
				if y, e := stone.Read(changed); changed != text && (e != api.ErrText || !isNone(y)) {
					t.Errorf("%q %v %v", changed, y, e)
				}
			}
		}
	}
}

// wrongNumbers returns what is no line with a word and so many numbers.
func wrongNumbers(word string, many int) []string {
	ones := strings.Repeat(" 1", many)
	right := word + ones
	wrong := []string{
		"", " ", word, word + " ", word + ones[2:], right + " ", " " + right, right + " 1", word + " " + ones, right[:len(right)-1] + " 1", word + "\t" + ones[1:], word + ones[1:], ones[1:], "1" + right[1:], "x" + right, word + "s" + ones,
		strings.ToUpper(right), right[1:], right + "\r", right + "\x00", "end 000", "end",
	}
	for _, digits := range []string{"01", "00", "00001", "+1", "-1", "-0", "-", "?", "x", "1x", "1.0", "1,0", "100000", "99999999999999999999", "0x1", "1_0", "/", ":", "１", "٣", "\xff", ""} {
		wrong = append(wrong, word+" "+digits+ones[2:], word+ones[2:]+" "+digits)
	}
	return wrong
}

// wrongMarks returns what is no line with a word and a TEXT.
func wrongMarks(word string) []string {
	return []string{word, word + " ", word + "  ", word + "  5", word + " 5 ", word + " 5 5", word + " - -", " " + word + " 5", word + "5", word + "-", word + "\t5", word + "s 5", "x" + word + " 5", strings.ToUpper(word) + " 5", "5", "5 " + word, "-"}
}

// noBooks are strings that have not the form of a book, most of them with the CHECK that they should have.
func noBooks() []string {
	first, mark, old, gap := "stones 1 1 2 2", "mark 5", "old -", "gap 1 1"
	all := []string{
		"", "\n", "\n\n", "end 000", "end 000\n", "\nend 000\n", text(), text(""), first + "\n", smallText[1:], smallText[:len(smallText)-1], smallText + "\n", "\n" + smallText, smallText + smallText, strings.ReplaceAll(smallText, "\n", "\r\n"),
		strings.TrimSuffix(smallText, "end 061\n"), "\xff\xfe", strings.Repeat("x", 400), strings.Repeat("\n", 400), strings.Repeat(" ", 400), text(mark), text(gap), text(mark, gap), text(mark, first), text(gap, first), text(mark, first, mark, gap),
		text(first, first), text(first, first, mark, mark, gap), text(first, mark, first, gap), text(first, mark, mark, gap, first), text(first, gap, mark), text(first, gap, old), text(first, mark, gap, old), text(first, mark, gap, mark, gap),
		text(first, mark, gap, gap, mark), text("", first, mark), text(first, "", mark), text(first, mark, ""), text(first, mark, "", gap), text(first, mark, old, gap, ""),
	}
	for _, end := range []string{"", "end", "end ", "end 61", "end 0061", "end 060", "end 062", "end 228", "end 395", "end -61", "end 061 ", " end 061", "end  061", "End 061", "end\t061", "end 061 0", "end 06１", "061", "end 061\nend 061"} {
		all = append(all, strings.Replace(smallText, "end 061", end, 1))
	}
	for _, wrong := range append(wrongNumbers("stones", 4), wrongMarks("stones")...) {
		all = append(all, text(wrong), text(wrong, mark, mark, gap))
	}
	for _, wrong := range slices.Concat(wrongNumbers("gap", 2), wrongMarks("mark"), wrongMarks("old"), wrongMarks("stone"), wrongMarks("new"), wrongMarks("end")) {
		all = append(all, text(first, wrong), text(first, wrong, mark, gap), text(first, mark, wrong), text(first, mark, old, wrong), text(first, mark, old, gap, wrong))
	}
	return all
}

// P9.8: strings that have not the form are no books.
func TestReadOfNoBook(t *testing.T) {
	if y, e := stone.Read(text("stones 1 1 2 2", "mark 5", "old -", "gap 1 1")); e != api.OK || !sameLine(y, line("5 o-", 1, 1, 2, 2, 1, 1)) {
		t.Error(y, e)
	}
	for i, x := range noBooks() {
		if y, e := stone.Read(x); e != api.ErrText || !isNone(y) {
			t.Errorf("%d: %q %v %v", i, x, y, e)
		}
	}
}

// P9.8: a book has the form with any number of marks and gaps, any numbers and any TEXT; what is too long comes first.
func TestReadOfWrongLines(t *testing.T) {
	many := func(marks, gaps int) string {
		return text(slices.Concat([]string{"stones 1 1 2 2"}, slices.Repeat([]string{"mark -"}, marks), slices.Repeat([]string{"gap 1 1"}, gaps))...)
	}
	with := func(mark string) string { return text("stones 1 1 2 2", mark, "mark -", "gap 1 1") }
	first := func(numbers string) string { return text("stones "+numbers, "mark -", "mark -", "gap 1 1") }
	last := func(numbers string) string { return text("stones 1 1 2 2", "mark -", "mark -", "gap "+numbers) }
	if len(longText(400)) != 400 || len(longText(401)) != 401 {
		t.Error(len(longText(400)), len(longText(401)))
	}
	for i, x := range []struct {
		text string
		e    api.Errno
	}{
		{many(0, 0), api.ErrArg}, {many(1, 0), api.ErrArg}, {many(0, 1), api.ErrArg}, {many(2, 0), api.ErrArg}, {many(2, 1), api.OK}, {many(2, 2), api.ErrArg}, {many(3, 1), api.ErrArg}, {many(8, 7), api.OK}, {many(9, 8), api.ErrArg}, {many(8, 8), api.ErrArg}, {many(0, 40), api.ErrArg}, {many(50, 0), api.ErrArg},
		{many(0, 60), api.ErrLong}, {with("mark 5"), api.OK}, {with("old 99"), api.OK}, {with("old 0"), api.OK}, {with("mark 00"), api.OK}, {with("mark ??"), api.OK}, {with("mark 123"), api.ErrArg}, {with("mark ???"), api.ErrArg}, {with("old ---"), api.ErrArg}, {with("mark --"), api.ErrArg},
		{with("mark -5"), api.ErrArg}, {with("old 5-"), api.ErrArg}, {with("mark x"), api.ErrArg}, {with("mark \t"), api.ErrArg}, {with("mark 5\r"), api.ErrArg}, {with("mark \r"), api.ErrArg}, {with("mark ٣"), api.ErrArg}, {with("mark \xff"), api.ErrArg}, {with("old \x00"), api.ErrArg}, {with("mark mark"), api.ErrArg},
		{with("mark " + strings.Repeat("?", 340)), api.ErrArg}, {with("mark " + strings.Repeat("?", 360)), api.ErrLong}, {first("1 500 2 2"), api.OK}, {first("0 500 2 2"), api.ErrArg}, {first("1 501 2 2"), api.ErrArg}, {first("7 6 2 2"), api.ErrArg}, {first("1 1 1 2"), api.ErrArg}, {first("1 1 2 12"), api.OK},
		{first("1 1 2 13"), api.ErrArg}, {first("1 1 200 200"), api.OK}, {first("1 1 200 201"), api.ErrArg}, {first("1 1 200 199"), api.ErrArg}, {first("99999 99999 99999 99999"), api.ErrArg}, {first("0 0 0 0"), api.ErrArg}, {first("99999 99999 99999 100000"), api.ErrText},
		{last("1 50000"), api.OK}, {last("0 1"), api.ErrArg}, {last("50000 50001"), api.ErrArg}, {last("2 1"), api.ErrArg}, {last("99999 99999"), api.ErrArg}, {last("99999 100000"), api.ErrText}, {longText(400), api.ErrArg}, {longText(401), api.ErrLong},
		{strings.Repeat("x", 401), api.ErrLong}, {strings.Repeat("\n", 100000), api.ErrLong}, {strings.Repeat(smallText, 20), api.ErrLong},
	} {
		y, e := stone.Read(x.text)
		if e != x.e || e != api.OK && !isNone(y) {
			t.Errorf("%d: %q %v %v", i, x.text, y, e)
		}
	}
}

// longText returns a book of so many bytes, of a line with one long TEXT.
func longText(size int) string {
	rest := size - len(text("stones 1 1 2 2", "old ", "mark -", "gap 1 1"))
	return text("stones 1 1 2 2", "old "+strings.Repeat("?", rest), "mark -", "gap 1 1")
}
