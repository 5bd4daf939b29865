package leak_test

import (
	"math/rand/v2"
	"slices"
	"strconv"
	"strings"
	"testing"

	"quinaria/api"
	"quinaria/leak"
)

// book returns lines with the CHECK that they should have.
func book(lines ...string) string {
	sum := 0
	for i, line := range lines {
		for j := range len(line) {
			sum += (i + 1) * (j + 1) * int(line[j])
		}
	}
	check := "00" + strconv.Itoa(sum%157)
	return strings.Join(lines, "\n") + "\nend " + check[len(check)-3:] + "\n"
}

// P5.7: the chapter's book, those of its lines m and n, and of the greatest numbers.
func TestPrint(t *testing.T) {
	for i, x := range []struct {
		l    api.LeakLine
		want string
	}{
		{smallLine(), "line 1 1 0\nstretch 0\nend 051\n"},
		{lineM(), book("line 5 15 1", "stretch 10", "stretch 0", "stretch 20", "count 0 100 104", "count 3 58 62")},
		{lineN(), book("line 5 15 1", "stretch 10", "stretch 0", "stretch 20", "count 0 100 104", "count 3 58 62", "count 1 97 100")},
		{fullLine(), book("line 60 60 2", "stretch 60", "stretch 60", "stretch 60", "stretch 60", "stretch 60", "count 0 400 400", "count 5 0 100", "count 5 0 400",
			"count 1 0 340", "count 2 160 280", "count 3 100 220", "count 4 0 160", "count 0 0 400")},
		{wideLine(), book("line 1 60 2", "stretch 0", "stretch 0", "stretch 0", "stretch 0", "stretch 0")},
	} {
		if y, e := leak.Print(x.l); y != x.want || e != api.OK {
			t.Errorf("%d: %q %v", i, y, e)
		}
	}
	for i, l := range wrongLines() {
		if y, e := leak.Print(l); y != "" || e != api.ErrArg {
			t.Errorf("%d: %q %v", i, y, e)
		}
	}
}

// P5.7, P0.11: what was written is read as what was written, also of lines that are not possible, and of the longest books.
func TestReadOfPrint(t *testing.T) {
	r := rand.New(rand.NewPCG(5, 9))
	longest := line(list(60, 60, 60, 60, 60), 60, 60, 2, slices.Repeat(list(5, 400, 400), 8)...)
	all := slices.Concat(ourLines(), impossibleLines(), []api.LeakLine{longest})
	for range 500 {
		all = append(all, someLine(r, 5, 8))
	}
	for _, l := range all {
		text, e := leak.Print(l)
		y, f := leak.Read(text)
		if e != api.OK || f != api.OK || !sameLine(l, y) {
			t.Errorf("%q %v %v %v", text, y, e, f)
		}
	}
}

// P5.7: one digit that was changed is noticed.
func TestChangedDigits(t *testing.T) {
	for _, l := range append(ourLines(), impossibleLines()...) {
		text, _ := leak.Print(l)
		for i := range text {
			for digit := '0'; digit <= '9' && '0' <= text[i] && text[i] <= '9'; digit++ {
				changed := text[:i] + string(digit) + text[i+1:]
				if y, e := leak.Read(changed); changed != text && (e != api.ErrText || !isNone(y)) {
					t.Errorf("%q %v %v", changed, y, e)
				}
			}
		}
	}
}

// wrongLinesOf returns what is no line with a word and some numbers, each of which is 1 where it can be.
func wrongLinesOf(word string, numbers int) []string {
	right := word + strings.Repeat(" 1", numbers)
	wrong := []string{
		"", word, word + " ", right + " ", " " + right, right + " 1", strings.TrimSuffix(right, " 1"), strings.Replace(right, " ", "  ", 1), strings.Replace(right, " ", "\t", 1),
		strings.Replace(right, " ", "", 1), strings.TrimPrefix(right, word+" "), "1 " + right, "x" + right, word + "s" + right[len(word):], strings.ToUpper(right), right[1:], right + "\r", right + "\x00",
	}
	for _, digits := range []string{"01", "00", "001", "+1", "-1", "-0", "x", "1x", "1.0", "1,0", "1000", "99999999999999999999", "0x1", "1_0", "/", ":", "１", "٣", "\xff", ""} {
		wrong = append(wrong, word+strings.Repeat(" 1", numbers-1)+" "+digits)
		if numbers > 1 {
			wrong = append(wrong, word+" "+digits+strings.Repeat(" 1", numbers-1))
		}
	}
	return wrong
}

// noBooks are strings that have not the form of a book, most of them with the CHECK that they should have.
func noBooks() []string {
	right := book("line 1 1 1", "stretch 1", "count 1 1 1")
	all := []string{
		"", "\n", "\n\n", "end 000\n", book(""), "line 1 1 0\n", "line 1 1 0\nstretch 0\n", right[1:], right[:len(right)-1], right + "\n", "\n" + right, right + right,
		strings.ReplaceAll(right, "\n", "\r\n"), strings.TrimSuffix(right, right[strings.Index(right, "end"):]), "\xff\xfe",
		strings.Repeat("x", 300), strings.Repeat("\n", 300), strings.Repeat(" ", 300),
		book("stretch 1"), book("count 1 1 1"), book("stretch 1", "line 1 1 1"), book("stretch 1", "count 1 1 1"), book("line 1 1 1", "line 1 1 1"), book("", "line 1 1 1", "stretch 1"),
		book("line 1 1 1", "stretch 1", "line 1 1 1"), book("line 1 1 1", "count 1 1 1", "stretch 1"), book("line 1 1 1", "stretch 1", "count 1 1 1", "stretch 1"),
		book("line 1 1 1", "stretch 1", "end 051"), book("line 1 1 1", "end", "stretch 1"), book("line 1 1 1", "stretch 1", "count 1 1 1", ""), book("line 1 1 1", "stretch 1 1 1"), book("line 1 1 1", "count 1"),
	}
	small := "line 1 1 0\nstretch 0\nend 051\n"
	for _, end := range []string{"", "end", "end ", "end 51", "end 0051", "end 050", "end 052", "end 208", "end -51", "end 051 ", " end 051", "end  051", "End 051", "end\t051", "end 051 0", "end 05１", "051", "end 051\nend 051"} {
		all = append(all, strings.Replace(small, "end 051", end, 1))
	}
	for _, wrong := range wrongLinesOf("line", 3) {
		all = append(all, book(wrong, "stretch 1", "count 1 1 1"))
	}
	for _, wrong := range append(wrongLinesOf("stretch", 1), wrongLinesOf("count", 3)...) {
		all = append(all, book("line 1 1 1", wrong), book("line 1 1 1", "stretch 1", wrong), book("line 1 1 1", "stretch 1", wrong, "count 1 1 1"))
	}
	return all
}

// P5.7: strings that have not the form are no books.
func TestReadOfNoBook(t *testing.T) {
	if y, e := leak.Read(book("line 1 1 1", "stretch 1", "count 1 1 1")); e != api.OK || !sameLine(y, line(list(1), 1, 1, 1, 1, 1, 1)) {
		t.Error(y, e)
	}
	for i, x := range noBooks() {
		if y, e := leak.Read(x); e != api.ErrText || !isNone(y) {
			t.Errorf("%d: %q %v %v", i, x, y, e)
		}
	}
}

// manyStretches returns a book of so many bytes, the last of whose 27 stretches give more.
func manyStretches(size int) string {
	lines := append([]string{"line 5 15 1"}, slices.Repeat([]string{"stretch 1"}, 27)...)
	for i := len(book(lines...)); i < size; i++ {
		lines[size-i] += "0"
	}
	return book(lines...)
}

// P5.7: a book has the form with any number of stretches and counts, and with any numbers; what is too long comes first.
func TestReadOfWrongLines(t *testing.T) {
	if len(manyStretches(300)) != 300 || len(manyStretches(301)) != 301 {
		t.Error(len(manyStretches(300)), len(manyStretches(301)))
	}
	many := func(stretches, counts int) string {
		return book(slices.Concat([]string{"line 5 15 1"}, slices.Repeat([]string{"stretch 7"}, stretches), slices.Repeat([]string{"count 0 1 400"}, counts))...)
	}
	for i, x := range []struct {
		text string
		e    api.Errno
	}{
		{book("line 1 1 0"), api.ErrArg}, {book("line 1 1 0", "count 0 0 0"), api.ErrArg},
		{book("line 1 60 2", "stretch 60"), api.OK}, {book("line 0 60 2", "stretch 60"), api.ErrArg}, {book("line 1 61 2", "stretch 60"), api.ErrArg},
		{book("line 1 60 3", "stretch 60"), api.ErrArg}, {book("line 1 60 2", "stretch 61"), api.ErrArg}, {book("line 60 59 2", "stretch 60"), api.ErrArg},
		{book("line 1 60 2", "stretch 60", "count 1 0 400"), api.OK}, {book("line 1 60 2", "stretch 60", "count 2 0 400"), api.ErrArg},
		{book("line 1 60 2", "stretch 60", "count 1 0 401"), api.ErrArg}, {book("line 1 60 2", "stretch 60", "count 1 5 4"), api.ErrArg},
		{book("line 999 999 999", "stretch 999", "count 999 999 999"), api.ErrArg}, {book("line 999 999 999", "stretch 999", "count 999 999 1000"), api.ErrText},
		{many(5, 8), api.OK}, {many(6, 8), api.ErrArg}, {many(5, 9), api.ErrArg}, {many(0, 8), api.ErrArg}, {many(27, 0), api.ErrArg}, {many(1, 18), api.ErrArg},
		{manyStretches(300), api.ErrArg}, {manyStretches(301), api.ErrLong}, {many(100, 0), api.ErrLong},
		{strings.Repeat("x", 301), api.ErrLong}, {strings.Repeat("\n", 100000), api.ErrLong},
	} {
		y, e := leak.Read(x.text)
		if e != x.e || e != api.OK && !isNone(y) {
			t.Errorf("%d: %q %v %v", i, x.text, y, e)
		}
	}
}
