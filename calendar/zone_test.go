package calendar_test

import (
	"math"
	"slices"
	"testing"

	"diorama/api"
	"diorama/calendar"
)

const dayMinutes = 1440

// localTime is a day and a minute of it.
type localTime struct {
	day, minute int
}

// goodZones are valid, among them those with the greatest and the least numbers.
func goodZones() []calendar.Zone {
	zones := []calendar.Zone{}
	for _, offset := range []int{0, 1, -1, 60, -60, 330, -570, 900, -900} {
		for _, summer := range []int{0, 1, 30, 60, 120} {
			for _, days := range [][2]int{{1, 1}, {367, 367}, {1, 367}, {1, 2}, {365, 366}, {366, 367}, {90, 300}, {1, 300}, {300, 366}, {59, 61}} {
				zones = append(zones, calendar.Zone{Offset: offset, Summer: summer, From: days[0], To: days[1]})
			}
		}
	}
	return zones
}

// badZones are not valid.
func badZones() []calendar.Zone {
	return []calendar.Zone{
		{},
		{Offset: 901, Summer: 60, From: 90, To: 300},
		{Offset: -901, Summer: 60, From: 90, To: 300},
		{Offset: math.MaxInt, Summer: 60, From: 90, To: 300},
		{Offset: math.MinInt, Summer: 60, From: 90, To: 300},
		{Offset: 60, Summer: 121, From: 90, To: 300},
		{Offset: 60, Summer: -1, From: 90, To: 300},
		{Offset: 60, Summer: math.MaxInt, From: 90, To: 300},
		{Offset: 60, Summer: math.MinInt, From: 90, To: 300},
		{Offset: 60, Summer: 60, From: 0, To: 300},
		{Offset: 60, Summer: 60, From: -1, To: 300},
		{Offset: 60, Summer: 60, From: math.MinInt, To: 300},
		{Offset: 60, Summer: 60, From: 90, To: 89},
		{Offset: 60, Summer: 60, From: 90, To: 0},
		{Offset: 60, Summer: 60, From: 90, To: math.MinInt},
		{Offset: 60, Summer: 60, From: 90, To: 368},
		{Offset: 60, Summer: 60, From: 90, To: math.MaxInt},
		{Offset: 60, Summer: 60, From: 368, To: 368},
		{Offset: 60, Summer: 60, From: 368, To: 367},
		{Offset: 60, Summer: 60, From: math.MaxInt, To: math.MaxInt},
		{Offset: 60, Summer: 0, From: 0, To: 0},
		{Offset: 901, Summer: 121, From: 0, To: 368},
	}
}

// refClock is the day and the minute of a time by Go's own calendar, and the number of the day within its year.
func refClock(minutes int) (local localTime, yearDay int, known bool) {
	day := int(math.Floor(float64(minutes) / dayMinutes))
	known = day >= firstDay && day <= lastDay
	return localTime{day, minutes - day*dayMinutes}, refDate(day).YearDay(), known
}

// refLocal is the local time of a moment by its definition.
func refLocal(moment int, z calendar.Zone) (localTime, api.Errno) {
	local, yearDay, known := refClock(moment + z.Offset)
	if !known {
		return localTime{}, api.ErrRange
	}
	if yearDay >= z.From && yearDay <= z.To-1 {
		local, _, known = refClock(moment + z.Offset + z.Summer)
	}
	if !known {
		return localTime{}, api.ErrRange
	}
	return local, api.OK
}

// daysNear are days on which summer time can begin or end, or a year, or the known days.
func daysNear(z calendar.Zone) []int {
	days := []int{firstDay, lastDay}
	for _, begin := range []int{firstDay, -36524, -365, 0, 366, 36525} {
		days = append(days, begin, begin+z.From-1, begin+z.To-1)
	}
	return days
}

// mustMoments returns the moments of a local time.
func mustMoments(t *testing.T, day, minute int, z calendar.Zone) []int {
	t.Helper()
	l, e := calendar.Moments(day, minute, z)
	if e != api.OK {
		t.Fatalf("Moments(%d, %d, %+v) has the error %d", day, minute, z, e)
	}
	return l
}

// P8.3: moments and local times, and the last ones that are known
func TestNamedLocalTimes(t *testing.T) {
	summer := calendar.Zone{Offset: 60, Summer: 60, From: 90, To: 300}
	always := calendar.Zone{Offset: 900, Summer: 120, From: 1, To: 367}
	last := (lastDay+1)*dayMinutes - 1
	first := firstDay * dayMinutes
	for _, c := range []struct {
		moment int
		z      calendar.Zone
		want   localTime
		e      api.Errno
	}{
		{0, calendar.Zone{Offset: -60, From: 1, To: 1}, localTime{-1, 1380}, api.OK},
		{0, calendar.Zone{Offset: 60, From: 1, To: 1}, localTime{0, 60}, api.OK},
		{-1, calendar.Zone{From: 1, To: 1}, localTime{-1, 1439}, api.OK},
		{-1440, calendar.Zone{From: 1, To: 1}, localTime{-1, 0}, api.OK},
		{-1441, calendar.Zone{From: 1, To: 1}, localTime{-2, 1439}, api.OK},
		{89*1440 - 61, summer, localTime{88, 1439}, api.OK},
		{89*1440 - 60, summer, localTime{89, 60}, api.OK},
		{299*1440 - 61, summer, localTime{299, 59}, api.OK},
		{299*1440 - 60, summer, localTime{299, 0}, api.OK},
		{(366+89)*1440 - 61, summer, localTime{366 + 88, 1439}, api.OK},
		{(366+89)*1440 - 60, summer, localTime{366 + 89, 60}, api.OK},
		{last - 1020, always, localTime{lastDay, 1439}, api.OK},
		{last - 1019, always, localTime{}, api.ErrRange},
		{last - 899, always, localTime{}, api.ErrRange},
		{first - 900, always, localTime{firstDay, 120}, api.OK},
		{first - 901, always, localTime{}, api.ErrRange},
		{first - 1020, always, localTime{}, api.ErrRange},
		{last, calendar.Zone{From: 1, To: 1}, localTime{lastDay, 1439}, api.OK},
		{last + 1, calendar.Zone{From: 1, To: 1}, localTime{}, api.ErrRange},
		{last + 900, calendar.Zone{Offset: -900, From: 1, To: 1}, localTime{lastDay, 1439}, api.OK},
		{last + 901, calendar.Zone{Offset: -900, From: 1, To: 1}, localTime{}, api.ErrRange},
		{first, calendar.Zone{From: 1, To: 1}, localTime{firstDay, 0}, api.OK},
		{first - 1, calendar.Zone{From: 1, To: 1}, localTime{}, api.ErrRange},
	} {
		day, minute, e := calendar.Local(c.moment, c.z)
		if (localTime{day, minute}) != c.want || e != c.e {
			t.Errorf("Local(%d, %+v) = %d, %d and the error %d, want %v and %d", c.moment, c.z, day, minute, e, c.want, c.e)
		}
	}
}

// P8.3: against the definition, near all that changes a local time
func TestLocal(t *testing.T) {
	for _, z := range goodZones() {
		for _, day := range daysNear(z) {
			for _, minute := range []int{-1441, -1440, -1439, -1020, -901, -900, -899, -121, -120, -60, -2, -1, 0, 1, 59, 60, 119, 120, 899, 900, 901, 1019, 1020, 1021, 1439, 1440, 2339, 2340} {
				for _, moment := range []int{day*dayMinutes + minute, day*dayMinutes + minute - z.Offset, day*dayMinutes + minute - z.Offset - z.Summer} {
					want, wanted := refLocal(moment, z)
					localDay, localMinute, e := calendar.Local(moment, z)
					if (localTime{localDay, localMinute}) != want || e != wanted {
						t.Fatalf("Local(%d, %+v) = %d, %d and the error %d, want %v and %d", moment, z, localDay, localMinute, e, want, wanted)
					}
				}
			}
		}
	}
}

// P8.3: no sum with a far moment comes near
func TestFarMoments(t *testing.T) {
	for _, z := range goodZones() {
		for far := range 1100 {
			for _, moment := range []int{math.MaxInt - far, math.MinInt + far, 1<<40 + far, -1<<40 - far} {
				if day, minute, e := calendar.Local(moment, z); day != 0 || minute != 0 || e != api.ErrRange {
					t.Fatalf("Local(%d, %+v) = %d, %d and the error %d", moment, z, day, minute, e)
				}
			}
		}
	}
}

// P8.4: local times with no moment, one and two
func TestNamedMoments(t *testing.T) {
	z := calendar.Zone{Offset: 60, Summer: 60, From: 90, To: 300}
	always := calendar.Zone{Offset: 900, Summer: 120, From: 1, To: 367}
	for _, c := range []struct {
		z           calendar.Zone
		day, minute int
		want        []int
	}{
		{z, 0, 0, []int{-60}},
		{z, 88, 1439, []int{89*1440 - 61}},
		{z, 89, 0, nil},
		{z, 89, 30, nil},
		{z, 89, 59, nil},
		{z, 89, 60, []int{89*1440 - 60}},
		{z, 298, 1439, []int{299*1440 - 121}},
		{z, 299, 0, []int{299*1440 - 120, 299*1440 - 60}},
		{z, 299, 59, []int{299*1440 - 61, 299*1440 - 1}},
		{z, 299, 60, []int{299 * 1440}},
		{calendar.Zone{Offset: 60, From: 90, To: 300}, 299, 0, []int{299*1440 - 60}},
		{calendar.Zone{Offset: 60, From: 90, To: 300}, 89, 0, []int{89*1440 - 60}},
		{calendar.Zone{Offset: -900, Summer: 1, From: 300, To: 300}, 299, 0, []int{299*1440 + 900}},
		{always, firstDay, 119, nil},
		{always, firstDay, 120, []int{firstDay*1440 - 900}},
		{always, lastDay, 1439, []int{(lastDay+1)*1440 - 1 - 1020}},
	} {
		if l := mustMoments(t, c.day, c.minute, c.z); !slices.Equal(l, c.want) {
			t.Errorf("Moments(%d, %d, %+v) = %v, want %v", c.day, c.minute, c.z, l, c.want)
		}
	}
}

// P8.4, P8.8: all moments near each other, by their local times, in some zones with each offset, summer time and season
func TestMoments(t *testing.T) {
	for i, z := range goodZones() {
		if i%7 != 0 {
			continue
		}
		for _, day := range daysNear(z) {
			momentsOf := map[localTime][]int{}
			for moment := (day-1)*dayMinutes - 1200; moment < (day+2)*dayMinutes+1200; moment++ {
				if local, e := refLocal(moment, z); e == api.OK {
					momentsOf[local] = append(momentsOf[local], moment)
				}
			}
			for local := (localTime{max(day-1, firstDay), 0}); local.day <= min(day+1, lastDay); {
				l := mustMoments(t, local.day, local.minute, z)
				if !slices.Equal(l, momentsOf[local]) {
					t.Fatalf("Moments(%d, %d, %+v) = %v, want %v", local.day, local.minute, z, l, momentsOf[local])
				}
				if local.minute += 7; local.minute >= dayMinutes {
					local = localTime{local.day + 1, local.minute - dayMinutes}
				}
			}
		}
	}
}

// P8.3, P8.4: zones that are not valid, also where nothing else is right
func TestBadZones(t *testing.T) {
	for _, z := range badZones() {
		for _, moment := range []int{0, 1, -1, 1 << 40, math.MaxInt, math.MinInt} {
			if day, minute, e := calendar.Local(moment, z); day != 0 || minute != 0 || e != api.ErrArg {
				t.Errorf("Local(%d, %+v) = %d, %d and the error %d", moment, z, day, minute, e)
			}
		}
		for _, day := range append(unknownDays(), 0, firstDay, lastDay) {
			for _, minute := range []int{0, 1439, 1440, -1, math.MaxInt, math.MinInt} {
				if l, e := calendar.Moments(day, minute, z); len(l) != 0 || e != api.ErrArg {
					t.Errorf("Moments(%d, %d, %+v) = %v and the error %d", day, minute, z, l, e)
				}
			}
		}
	}
}

// P8.4: days and minutes that there are not
func TestNoSuchLocalTime(t *testing.T) {
	for _, z := range goodZones() {
		for _, minute := range []int{-1, 1440, 1441, -1440, 1 << 32, math.MaxInt, math.MinInt} {
			for _, day := range append(unknownDays(), 0, firstDay, lastDay, 299) {
				if l, e := calendar.Moments(day, minute, z); len(l) != 0 || e != api.ErrRange {
					t.Errorf("Moments(%d, %d, %+v) = %v and the error %d", day, minute, z, l, e)
				}
			}
		}
		for _, minute := range []int{0, 59, 1439} {
			for _, day := range unknownDays() {
				if l, e := calendar.Moments(day, minute, z); len(l) != 0 || e != api.ErrRange {
					t.Errorf("Moments(%d, %d, %+v) = %v and the error %d", day, minute, z, l, e)
				}
			}
		}
	}
}

// P8.8: the moments of a local time, and the next minute
func TestNextMinutes(t *testing.T) {
	for _, z := range goodZones() {
		for _, begin := range daysNear(z) {
			for moment := begin*dayMinutes - z.Offset - 130; moment < begin*dayMinutes-z.Offset+130; moment++ {
				day, minute, e := calendar.Local(moment, z)
				nextDay, nextMinute, f := calendar.Local(moment+1, z)
				if e != api.OK || f != api.OK {
					continue
				}
				l := mustMoments(t, day, minute, z)
				if !slices.Contains(l, moment) || len(l) > 2 || z.Summer == 0 && len(l) != 1 || !slices.IsSorted(l) {
					t.Fatalf("Moments(%d, %d, %+v) = %v, and %d is one of them", day, minute, z, l, moment)
				}
				if step := (nextDay-day)*dayMinutes + nextMinute - minute; step != 1 && step != 1+z.Summer && step != 1-z.Summer {
					t.Fatalf("Local(%d, %+v) is %d minutes behind the one before", moment+1, z, step)
				}
			}
		}
	}
}

// Results are new memory.
func TestMomentsAreNew(t *testing.T) {
	z := calendar.Zone{Offset: 60, Summer: 60, From: 90, To: 300}
	l := mustMoments(t, 299, 0, z)
	want := slices.Clone(l)
	clear(l)
	if again := mustMoments(t, 299, 0, z); !slices.Equal(again, want) {
		t.Errorf("the moments are %v, and after these were changed %v", want, again)
	}
}
