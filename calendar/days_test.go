package calendar_test

import (
	"math"
	"testing"
	"time"

	"diorama/api"
	"diorama/calendar"
)

// The known days.
const (
	firstDay = -146097
	lastDay  = 146096
)

// refDate is the beginning of a day by Go's own calendar.
func refDate(day int) time.Time {
	return time.Date(2000, time.January, 1, 0, 0, 0, 0, time.UTC).AddDate(0, 0, day)
}

// refWeekday is the weekday of a day by Go's own calendar, in which 0 is a Sunday.
func refWeekday(day int) int {
	return (int(refDate(day).Weekday()) + 6) % 7
}

// refTexts are the texts of all known days by Go's own calendar.
func refTexts() map[string]int {
	texts := map[string]int{}
	for day := firstDay; day <= lastDay; day++ {
		texts[refDate(day).Format("2006-01-02")] = day
	}
	return texts
}

// unknownDays are days that the calendar does not know.
func unknownDays() []int {
	return []int{firstDay - 1, lastDay + 1, firstDay - 2, lastDay + 2, firstDay - 365, lastDay + 366, 2 * firstDay, -3 * firstDay, 1 << 32, -1 << 32, math.MaxInt, math.MinInt, math.MaxInt - 1, math.MinInt + 1}
}

// mustDay returns the day of a date.
func mustDay(t *testing.T, y, m, d int) int {
	t.Helper()
	day, e := calendar.Day(y, m, d)
	if e != api.OK {
		t.Fatalf("Day(%d, %d, %d) has the error %d", y, m, d, e)
	}
	return day
}

// P8.1, P8.2: each known day, against Go's own calendar
func TestKnownDays(t *testing.T) {
	for day := firstDay; day <= lastDay; day++ {
		date := refDate(day)
		if y, m, d := calendar.Civil(day); y != date.Year() || m != int(date.Month()) || d != date.Day() {
			t.Fatalf("Civil(%d) = %d, %d, %d, want %v", day, y, m, d, date)
		}
		if back, e := calendar.Day(date.Year(), int(date.Month()), date.Day()); back != day || e != api.OK {
			t.Fatalf("Day of %v = %d and the error %d, want %d", date, back, e, day)
		}
		if weekday := calendar.Weekday(day); weekday != refWeekday(day) {
			t.Fatalf("Weekday(%d) = %d, want %d", day, weekday, refWeekday(day))
		}
		text := date.Format("2006-01-02")
		if s := calendar.Text(day); s != text {
			t.Fatalf("Text(%d) = %q, want %q", day, s, text)
		}
		if read, e := calendar.Parse(text); read != day || e != api.OK {
			t.Fatalf("Parse(%q) = %d and the error %d, want %d", text, read, e, day)
		}
	}
}

// P8.1, P8.2: days that the chapter names, and the ends of years and of February
func TestNamedDays(t *testing.T) {
	for _, c := range []struct {
		day, y, m, d, weekday int
		text                  string
	}{
		{0, 2000, 1, 1, 5, "2000-01-01"},
		{1, 2000, 1, 2, 6, "2000-01-02"},
		{2, 2000, 1, 3, 0, "2000-01-03"},
		{-1, 1999, 12, 31, 4, "1999-12-31"},
		{59, 2000, 2, 29, 1, "2000-02-29"},
		{89, 2000, 3, 30, 3, "2000-03-30"},
		{299, 2000, 10, 26, 3, "2000-10-26"},
		{366, 2001, 1, 1, 0, "2001-01-01"},
		{8951, 2024, 7, 4, 3, "2024-07-04"},
		{-36466, 1900, 2, 28, 2, "1900-02-28"},
		{-36465, 1900, 3, 1, 3, "1900-03-01"},
		{firstDay, 1600, 1, 1, 5, "1600-01-01"},
		{firstDay + 59, 1600, 2, 29, 1, "1600-02-29"},
		{lastDay, 2399, 12, 31, 4, "2399-12-31"},
	} {
		y, m, d := calendar.Civil(c.day)
		if y != c.y || m != c.m || d != c.d {
			t.Errorf("Civil(%d) = %d, %d, %d, want %s", c.day, y, m, d, c.text)
		}
		if day := mustDay(t, c.y, c.m, c.d); day != c.day {
			t.Errorf("Day of %s = %d, want %d", c.text, day, c.day)
		}
		if weekday := calendar.Weekday(c.day); weekday != c.weekday {
			t.Errorf("Weekday(%d) = %d, want %d", c.day, weekday, c.weekday)
		}
		if text := calendar.Text(c.day); text != c.text {
			t.Errorf("Text(%d) = %q, want %q", c.day, text, c.text)
		}
		if day, e := calendar.Parse(c.text); day != c.day || e != api.OK {
			t.Errorf("Parse(%q) = %d and the error %d, want %d", c.text, day, e, c.day)
		}
	}
}

// P8.1, P8.2: nothing is told of other days
func TestUnknownDays(t *testing.T) {
	for _, day := range unknownDays() {
		if y, m, d := calendar.Civil(day); y != 0 || m != 0 || d != 0 {
			t.Errorf("Civil(%d) = %d, %d, %d", day, y, m, d)
		}
		if weekday := calendar.Weekday(day); weekday != 0 {
			t.Errorf("Weekday(%d) = %d", day, weekday)
		}
		if text := calendar.Text(day); text != "" {
			t.Errorf("Text(%d) = %q", day, text)
		}
	}
}

// P8.1: months and days that there are, or not, in and beside the known years
func TestNoSuchDate(t *testing.T) {
	for y := 1595; y <= 2405; y++ {
		for m := -1; m <= 14; m++ {
			for d := -1; d <= 33; d++ {
				date := time.Date(y, time.Month(m), d, 0, 0, 0, 0, time.UTC)
				good := date.Year() == y && int(date.Month()) == m && date.Day() == d && y >= 1600 && y <= 2399
				day, e := calendar.Day(y, m, d)
				if good != (e == api.OK) || !good && (day != 0 || e != api.ErrRange) {
					t.Fatalf("Day(%d, %d, %d) = %d and the error %d", y, m, d, day, e)
				}
			}
		}
	}
}

// P8.1: also for numbers that are far from those of a day
func TestNoSuchDateFarAway(t *testing.T) {
	far := []int{0, -1, 13, 32, 99, 1 << 32, -1 << 32, 1<<32 + 1, 1 << 62, math.MaxInt, math.MinInt}
	for _, x := range far {
		for _, other := range append(far, 1, 2, 12) {
			for _, date := range [][3]int{{x, other, 1}, {x, 1, other}, {2000, x, other}, {2000, other, x}, {x, x, other}} {
				if date[0] == 2000 && date[1] >= 1 && date[1] <= 12 && date[2] >= 1 && date[2] <= 29 {
					continue
				}
				if day, e := calendar.Day(date[0], date[1], date[2]); day != 0 || e != api.ErrRange {
					t.Errorf("Day(%v) = %d and the error %d", date, day, e)
				}
			}
		}
	}
}

// refused checks that a text is that of no known day.
func refused(t *testing.T, s string) {
	t.Helper()
	if day, e := calendar.Parse(s); day != 0 || e != api.ErrForm {
		t.Errorf("Parse(%q) = %d and the error %d, want the error %d", s, day, e, api.ErrForm)
	}
}

// P8.2
func TestNoSuchText(t *testing.T) {
	for _, s := range []string{
		"", "-", "--", "2", "2000", "2000-01", "2000-01-", "2000-01-0", "2000-01-011", "02000-01-01", "2000-1-01", "2000-01-1", "2000-1-1", "2000-001-1", "2000-1-001",
		"20000101", "2000/01/01", "2000.01.01", "2000-01/01", "2000/01-01", "2000_01_01", "01-01-2000", "01/01/2000", "2000--1-01", "2000-01--1",
		" 2000-01-01", "2000-01-01 ", "2000-01-01\n", "2000-01-01\x00", "2000- 1-01", "2000-01- 1", " 200-01-01", "+200-01-01", "-200-01-01", "2000-+1-01", "2000-01-+1", "2000-01--1",
		"2000-00-01", "2000-01-00", "2000-13-01", "2000-01-32", "2000-02-30", "2001-02-29", "1900-02-29", "2100-02-29", "2000-04-31", "2000-99-99",
		"1599-12-31", "2400-01-01", "0000-01-01", "9999-12-31", "0000-00-00", "1000-01-01",
		"2000-0a-01", "200a-01-01", "2000-01-0a", "0x7d-01-01", "2_00-01-01", "2000-1e-01", "２０００-01-01", "2000-01-1²", "\xff\xff\xff\xff-01-01", "2000–01–01",
	} {
		refused(t, s)
	}
}

// P8.2: texts that are nearly one of a known day
func TestChangedTexts(t *testing.T) {
	texts := refTexts()
	for _, good := range []string{"2000-01-01", "1600-02-29", "2399-12-31", "1999-09-30", "2004-02-28"} {
		for i := range len(good) {
			refused(t, good[:i]+good[i+1:])
			for b := range 256 {
				changed := good[:i] + string([]byte{byte(b)}) + good[i+1:]
				want, isText := texts[changed]
				if !isText {
					refused(t, changed)
				} else if day, e := calendar.Parse(changed); day != want || e != api.OK {
					t.Errorf("Parse(%q) = %d and the error %d, want %d", changed, day, e, want)
				}
				refused(t, good[:i]+string([]byte{byte(b)})+good[i:])
			}
		}
	}
}

// P8.6: each day and the next one
func TestNextDays(t *testing.T) {
	for day := firstDay; day < lastDay; day++ {
		y, m, d := calendar.Civil(day)
		if back := mustDay(t, y, m, d); back != day {
			t.Fatalf("Day(Civil(%d)) = %d", day, back)
		}
		if now, next := calendar.Weekday(day), calendar.Weekday(day+1); next != (now+1)%7 {
			t.Fatalf("the weekday %d follows %d behind the day %d", next, now, day)
		}
		nextY, nextM, nextD := calendar.Civil(day + 1)
		sameMonth := nextY == y && nextM == m && nextD == d+1
		nextMonth := nextY == y && nextM == m+1 && nextD == 1
		nextYear := nextY == y+1 && m == 12 && nextM == 1 && nextD == 1
		if !sameMonth && !nextMonth && !nextYear {
			t.Fatalf("%d, %d, %d follows %d, %d, %d", nextY, nextM, nextD, y, m, d)
		}
	}
}

// P8.6: 400 years, and those after them
func TestFourHundredYears(t *testing.T) {
	for y := 1600; y < 2000; y++ {
		if days := mustDay(t, y+399, 12, 31) + 1 - mustDay(t, y, 1, 1); days != 146097 {
			t.Errorf("400 years from %d on have %d days", y, days)
		}
	}
	for day := firstDay; day < 0; day++ {
		y, m, d := calendar.Civil(day)
		laterY, laterM, laterD := calendar.Civil(day + 146097)
		if laterY != y+400 || laterM != m || laterD != d || calendar.Weekday(day) != calendar.Weekday(day+146097) {
			t.Fatalf("%d, %d, %d is 400 years behind %d, %d, %d, or has another weekday", laterY, laterM, laterD, y, m, d)
		}
	}
}

// P8.7
func TestTextsAreInOrder(t *testing.T) {
	before := ""
	for day := firstDay; day <= lastDay; day++ {
		text := calendar.Text(day)
		if text <= before {
			t.Fatalf("the text %q of the day %d follows %q", text, day, before)
		}
		if back, e := calendar.Parse(text); back != day || e != api.OK {
			t.Fatalf("Parse(Text(%d)) = %d and the error %d", day, back, e)
		}
		before = text
	}
}
