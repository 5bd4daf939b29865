package level_test

import (
	"slices"
	"strconv"
	"strings"
	"testing"

	"quinaria/api"
	"quinaria/level"
)

// book returns lines with the CHECK that they should have.
func book(lines ...string) string {
	total := 0
	for i, line := range lines {
		for j, c := range []byte(line) {
			total += int(c) * (j + 1) * (i + 1)
		}
	}
	check := strconv.Itoa(1000 + total%149)[1:]
	return strings.Join(append(slices.Clone(lines), "end "+check), "\n") + "\n"
}

// P1.9: the books of the chapter, of no sights, of a survey that is not possible, and of the greatest numbers.
func TestPrint(t *testing.T) {
	for i, x := range []struct {
		s    api.LevelSurvey
		want string
	}{
		{survey(2, sight(0, 1, 4, 0)), "survey 2\nsight 0 1 4 0\nend 012\n"},
		{survey(2), "survey 2\nend 038\n"},
		{surveyT(), book("survey 4", "sight 0 1 10 1", "sight 1 2 -4 2", "sight 2 3 7 1", "sight 0 3 20 2")},
		{survey(8, sight(7, 0, -1000, 50), sight(0, 7, 1000, 0)), book("survey 8", "sight 7 0 -1000 50", "sight 0 7 1000 0")},
	} {
		if y, e := level.Print(x.s); y != x.want || e != api.OK {
			t.Errorf("%d: %q %v", i, y, e)
		}
	}
	for i, s := range wrongSurveys() {
		if y, e := level.Print(s); y != "" || e != api.ErrArg {
			t.Errorf("%d: %q %v", i, y, e)
		}
	}
}

// P1.9, P0.11: what was written is read as what was written.
func TestReadOfPrint(t *testing.T) {
	long := survey(8, slices.Repeat([]api.LevelSight{sight(7, 6, -1000, 50)}, 14)...)
	surveys := append(some(200, 8, 14), surveyS(), surveyT(), surveyU(), parted(), full(), survey(2), survey(8), long)
	for _, s := range surveys {
		text, e := level.Print(s)
		y, f := level.Read(text)
		if e != api.OK || f != api.OK || !sameSurvey(s, y) {
			t.Errorf("%q %v %v %v", text, y, e, f)
		}
	}
}

// P1.9: one digit that was changed is noticed.
func TestChangedDigits(t *testing.T) {
	for _, s := range []api.LevelSurvey{surveyT(), full(), survey(2, sight(0, 1, 4, 0)), survey(8, sight(7, 0, -1000, 50))} {
		text, _ := level.Print(s)
		for i, c := range []byte(text) {
			if c < '0' || c > '9' {
				continue
			}
			for digit := byte('0'); digit <= '9'; digit++ {
				changed := text[:i] + string(digit) + text[i+1:]
				if y, e := level.Read(changed); digit != c && (e != api.ErrText || y.Stations != 0 || len(y.Sights) > 0) {
					t.Errorf("%q %v %v", changed, y, e)
				}
			}
		}
	}
}

// P1.9: texts that have not the form, in each way, with the CHECK that they should have.
func TestReadOfNoBook(t *testing.T) {
	right := book("survey 2", "sight 0 1 4 0")
	for i, text := range []string{
		"", "\n", "survey 2", "survey 2\n", "end 000\n", "end 001\n", "survey 2\nend\n", "survey 2\nend 38\n", "survey 2\nend 0038\n",
		"survey 2\nend 187\n", "survey 2\nsight 0 1 4 0\n", "survey 2\nend -38\n", "survey 2\nend 038", "survey 2\nend 038\n\n", "\nsurvey 2\nend 038\n",
		"survey 2\nend 038 \n", "survey 2\nend  038\n", "survey 2\nend 038\nend 038\n", "survey 2\r\nend 038\r\n", "survey 2\nEnd 038\n",
		strings.Replace(right, "end 012", "end 013", 1), strings.Replace(right, "end 012", "end 011", 1), right[:len(right)-1], right[1:], right + right,
		book(), book(""), book("survey"), book("survey "), book("survey 2 "), book(" survey 2"), book("survey  2"), book("survey 2 2"),
		book("Survey 2"), book("surve 2"), book("survey 02"), book("survey +2"), book("survey -0"), book("survey x"), book("survey 2x"),
		book("survey 2.0"), book("survey ２"), book("survey 12345"), book("survey -12345"), book("survey -"), book("survey --2"), book("survey 0x2"),
		book("survey 99999999999999999999"), book("survey 2", ""), book("survey 2", "survey 2"), book("sight 0 1 4 0"), book("sight 0 1 4 0", "survey 2"),
		book("survey 2", "end 038"), book("survey 2", "sight 0 1 4"), book("survey 2", "sight 0 1 4 0 0"), book("survey 2", "sight 0 1 4 00"),
		book("survey 2", "sight 0 1 4 -0"), book("survey 2", "sight 0 1 04 0"), book("survey 2", "sight 0 1 -04 0"), book("survey 2", "sight 0 1 10000 0"),
		book("survey 2", "sight 0 1 4 0 "), book("survey 2", "sight 0 1 4\t0"), book("survey 2", "sight\t0 1 4 0"), book("survey 2", "sight 0  1 4 0"),
		book("survey 2", "right 0 1 4 0"), book("survey 2", "sight 0 1 4 \xff"), book("survey 2", "sight 0 1 4 0\r"), book("survey 2\x00"),
		book("survey 2", "sight 0 1 4 /"), book("survey 2", "sight 0 1 4 :"), "\xff\xfe", strings.Repeat("x", 400), strings.Repeat("\n", 400),
	} {
		if y, e := level.Read(text); e != api.ErrText || y.Stations != 0 || len(y.Sights) > 0 {
			t.Errorf("%d: %q %v %v", i, text, y, e)
		}
	}
}

// P1.9: a book with any numbers, and with any number of sights, has the form; what is too long comes first.
func TestReadOfWrongSurveys(t *testing.T) {
	many := []string{"survey 2"}
	for range 15 {
		many = append(many, "sight 0 1 0 0")
	}
	if len(padded(400)) != 400 || len(padded(401)) != 401 {
		t.Error(padded(400), padded(401))
	}
	for i, x := range []struct {
		text string
		e    api.Errno
	}{
		{book("survey 1"), api.ErrArg},
		{book("survey 0"), api.ErrArg},
		{book("survey 9999"), api.ErrArg},
		{book("survey -2"), api.ErrArg},
		{book("survey -9999"), api.ErrArg},
		{book("survey 2", "sight 0 2 4 0"), api.ErrArg},
		{book("survey 2", "sight -1 0 4 0"), api.ErrArg},
		{book("survey 2", "sight 1 1 4 0"), api.ErrArg},
		{book("survey 2", "sight 0 1 1001 0"), api.ErrArg},
		{book("survey 2", "sight 0 1 -9999 0"), api.ErrArg},
		{book("survey 2", "sight 0 1 4 51"), api.ErrArg},
		{book("survey 2", "sight 0 1 4 -1"), api.ErrArg},
		{book("survey 1", "sight 0 1 4 x"), api.ErrText},
		{book(many...), api.ErrArg},
		{book(many[:15]...), api.OK},
		{padded(400), api.ErrArg},
		{padded(401), api.ErrLong},
		{strings.Repeat("x", 401), api.ErrLong},
		{strings.Repeat("\n", 100000), api.ErrLong},
	} {
		y, e := level.Read(x.text)
		if e != x.e || e != api.OK && (y.Stations != 0 || len(y.Sights) > 0) {
			t.Errorf("%d: %q %v %v", i, x.text, y, e)
		}
	}
}

// padded returns a book of so many bytes, with too many sights: those with a longer Rise fill it up.
func padded(size int) string {
	lines := []string{"survey 2"}
	rest := size - len(book(lines...))
	line := len("sight 0 1 0 0\n")
	for i := range rest / line {
		rise := "0"
		if i < rest%line {
			rise = "10"
		}
		lines = append(lines, "sight 0 1 "+rise+" 0")
	}
	return book(lines...)
}
