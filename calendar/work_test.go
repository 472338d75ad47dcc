package calendar_test

import (
	"math"
	"slices"
	"sort"
	"testing"

	"diorama/api"
	"diorama/calendar"
)

// refWorkingDays are all known working days for some holidays, by Go's own calendar.
func refWorkingDays(holidays []int) []int {
	l := []int{}
	for day := firstDay; day <= lastDay; day++ {
		if refWeekday(day) < 5 && !slices.Contains(holidays, day) {
			l = append(l, day)
		}
	}
	return l
}

// refWork is the n-th of the working days after a day, or before it, and whether there is one.
func refWork(working []int, day, n int) (int, bool) {
	if n == 0 {
		return day, true
	}
	at := sort.SearchInts(working, day+1) + n - 1
	if n < 0 {
		at = sort.SearchInts(working, day) + n
	}
	if at < 0 || at >= len(working) {
		return 0, false
	}
	return working[at], true
}

// row is many days, one behind another.
func row(first, many int) []int {
	l := make([]int, many)
	for i := range l {
		l[i] = first + i
	}
	return l
}

// someHolidays are lists of holidays: in disorder, twice, on weekends, and on days that are not known.
func someHolidays() [][]int {
	return [][]int{
		nil,
		{2},
		{0, 1},
		{9, 3, 2, 9, 4, 2, -1, -2, 2},
		row(-200, 400),
		row(lastDay-399, 400),
		row(firstDay, 400),
		row(lastDay-5, 300),
		{math.MaxInt, math.MinInt, lastDay + 1, firstDay - 1, lastDay, firstDay, lastDay - 1, firstDay + 2},
	}
}

// mustWork returns the n-th working day.
func mustWork(t *testing.T, day, n int, holidays []int) int {
	t.Helper()
	found, e := calendar.Work(day, n, holidays)
	if e != api.OK {
		t.Fatalf("Work(%d, %d, %v) has the error %d", day, n, holidays, e)
	}
	return found
}

// P8.5: days that a person can count (the day 0 is a Saturday, 2 a Monday)
func TestNamedWork(t *testing.T) {
	for _, c := range []struct {
		day, n   int
		holidays []int
		want     int
	}{
		{0, 1, nil, 2}, {0, 1, []int{2}, 3}, {0, 1, []int{}, 2}, {1, 1, nil, 2}, {-1, 1, nil, 2},
		{2, 1, nil, 3}, {2, 4, nil, 6}, {2, 5, nil, 9}, {6, 1, nil, 9}, {6, 1, []int{10, 9, 10}, 11}, {6, 1, []int{7, 8}, 9},
		{0, -1, nil, -1}, {1, -1, nil, -1}, {2, -1, nil, -1}, {-1, -1, nil, -2}, {2, -5, nil, -5}, {2, -6, nil, -8}, {9, -1, []int{9, 6, 5}, 4},
		{0, 0, nil, 0}, {0, 0, []int{0}, 0}, {2, 0, []int{2}, 2}, {lastDay, 0, nil, lastDay}, {firstDay, 0, nil, firstDay},
		{0, 1000, nil, 1399}, {2, 1000, nil, 1402}, {2, -1000, nil, -1398},
	} {
		if found := mustWork(t, c.day, c.n, c.holidays); found != c.want {
			t.Errorf("Work(%d, %d, %v) = %d, want %d", c.day, c.n, c.holidays, found, c.want)
		}
	}
}

// P8.5: against the list of all working days, also behind its ends
func TestWork(t *testing.T) {
	for _, holidays := range someHolidays() {
		working := refWorkingDays(holidays)
		for _, begin := range []int{firstDay, firstDay + 390, firstDay + 1400, -250, 0, 3, 200, lastDay - 1400, lastDay - 402, lastDay - 11} {
			for day := begin; day < begin+12; day++ {
				for _, n := range []int{0, 1, 2, 3, 5, 6, 99, 276, 999, 1000, -1, -2, -4, -5, -101, -276, -999, -1000} {
					want, ok := refWork(working, day, n)
					found, e := calendar.Work(day, n, holidays)
					if found != want || ok != (e == api.OK) || !ok && e != api.ErrRange {
						t.Fatalf("Work(%d, %d, %v) = %d and the error %d, want %d", day, n, holidays, found, e, want)
					}
				}
			}
		}
	}
}

// P8.5: the last working days that are known
func TestWorkAtTheEnds(t *testing.T) {
	for _, c := range []struct {
		day, n   int
		holidays []int
		want     int
		e        api.Errno
	}{
		{lastDay - 1, 1, nil, lastDay, api.OK},
		{lastDay - 1, 2, nil, 0, api.ErrRange},
		{lastDay, 1, nil, 0, api.ErrRange},
		{lastDay - 1, 1, []int{lastDay}, 0, api.ErrRange},
		{lastDay, -1, nil, lastDay - 1, api.OK},
		{firstDay + 2, -1, nil, 0, api.ErrRange},
		{firstDay + 3, -1, nil, firstDay + 2, api.OK},
		{firstDay, -1, nil, 0, api.ErrRange},
		{firstDay, 1, nil, firstDay + 2, api.OK},
		{lastDay - 1399, 1000, nil, lastDay, api.OK},
		{lastDay - 1397, 1000, nil, 0, api.ErrRange},
		{firstDay + 1400, -1000, nil, firstDay + 2, api.OK},
		{firstDay + 1399, -1000, nil, 0, api.ErrRange},
	} {
		if found, e := calendar.Work(c.day, c.n, c.holidays); found != c.want || e != c.e {
			t.Errorf("Work(%d, %d, %v) = %d and the error %d, want %d and %d", c.day, c.n, c.holidays, found, e, c.want, c.e)
		}
	}
}

// P8.5: each error, and that limits go first
func TestWorkErrors(t *testing.T) {
	days := append(unknownDays(), 0, 2, firstDay, lastDay)
	for _, day := range days {
		for _, n := range []int{1001, -1001, 1 << 32, -1 << 32, math.MaxInt, math.MinInt} {
			for _, holidays := range [][]int{nil, {2}, make([]int, 400), make([]int, 401)} {
				if found, e := calendar.Work(day, n, holidays); found != 0 || e != api.ErrLimit {
					t.Errorf("Work(%d, %d, %d holidays) = %d and the error %d", day, n, len(holidays), found, e)
				}
			}
		}
		for _, n := range []int{0, 1, -1, 1000, -1000} {
			for _, many := range []int{401, 402, 1000} {
				if found, e := calendar.Work(day, n, row(0, many)); found != 0 || e != api.ErrLimit {
					t.Errorf("Work(%d, %d, %d holidays) = %d and the error %d", day, n, many, found, e)
				}
			}
		}
	}
	for _, day := range unknownDays() {
		for _, n := range []int{0, 1, -1, 2, -2, 1000, -1000} {
			for _, holidays := range someHolidays() {
				if found, e := calendar.Work(day, n, holidays); found != 0 || e != api.ErrRange {
					t.Errorf("Work(%d, %d, %v) = %d and the error %d", day, n, holidays, found, e)
				}
			}
		}
	}
}

// P8.9
func TestWorkAddsUp(t *testing.T) {
	for _, holidays := range someHolidays() {
		for day := -9; day < 12; day++ {
			for _, n := range []int{0, 1, 2, 4, 5, 7, 30, 499, 500} {
				for _, m := range []int{0, 1, 3, 5, 6, 77, 500} {
					for _, sign := range []int{1, -1} {
						middle := mustWork(t, day, sign*n, holidays)
						end := mustWork(t, middle, sign*m, holidays)
						if sum := mustWork(t, day, sign*(n+m), holidays); sum != end {
							t.Fatalf("from %d by %d to %d and by %d to %d, and at once to %d, with %v", day, sign*n, middle, sign*m, end, sum, holidays)
						}
						if isWorking := refWeekday(end) < 5 && !slices.Contains(holidays, end); n+m != 0 && !isWorking {
							t.Fatalf("%d is not a working day, with %v", end, holidays)
						}
					}
				}
			}
		}
	}
}

// P8.9: back from the n-th working day
func TestWorkLeadsBack(t *testing.T) {
	for _, holidays := range someHolidays() {
		for _, day := range refWorkingDays(holidays) {
			if day < -300 || day > 300 {
				continue
			}
			for _, n := range []int{1, 2, 5, 6, 100, 1000} {
				for _, there := range []int{n, -n} {
					if back := mustWork(t, mustWork(t, day, there, holidays), -there, holidays); back != day {
						t.Fatalf("from %d by %d and back is %d, with %v", day, there, back, holidays)
					}
				}
			}
		}
	}
}

// Holidays are not changed, nor those behind them read.
func TestHolidaysStay(t *testing.T) {
	all := []int{9, 3, 2, 9, 4, 5, 6}
	if found := mustWork(t, 0, 3, all[:5]); found != 10 {
		t.Errorf("Work(0, 3, %v) = %d", all[:5], found)
	}
	if !slices.Equal(all, []int{9, 3, 2, 9, 4, 5, 6}) {
		t.Errorf("the holidays became %v", all)
	}
}
