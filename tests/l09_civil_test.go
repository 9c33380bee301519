package tests

import (
	"math"
	"slices"
	"testing"

	"loop.example/g00188/impl"
)

func civil(year, month, day, hour, min int) impl.Civil {
	return impl.Civil{Year: year, Month: month, Day: day, Hour: hour, Min: min}
}

// how many days each month of a year without 29 February has
func plainMonths() []int { return []int{31, 28, 31, 30, 31, 30, 31, 31, 30, 31, 30, 31} }

// the years of 1970 .. 2099 with 29 February, written out
func handLeapYears() []int {
	return []int{
		1972, 1976, 1980, 1984, 1988, 1992, 1996, 2000, 2004, 2008, 2012, 2016, 2020, 2024, 2028, 2032,
		2036, 2040, 2044, 2048, 2052, 2056, 2060, 2064, 2068, 2072, 2076, 2080, 2084, 2088, 2092, 2096,
	}
}

func plainDaysIn(year, month int) int {
	days := plainMonths()[month-1]
	if month == 2 && slices.Contains(handLeapYears(), year) {
		days++
	}
	return days
}

func plainCivilOk(c impl.Civil) bool {
	if c.Year < 1970 || c.Year > 2099 || c.Month < 1 || c.Month > 12 {
		return false
	}
	return c.Day >= 1 && c.Day <= plainDaysIn(c.Year, c.Month) && c.Hour >= 0 && c.Hour <= 23 && c.Min >= 0 && c.Min <= 59
}

// a day of 1970 .. 2099 at its begin, as it is counted by hand
type plainDay struct {
	year, month, day int
	minute, weekday  int
}

func (d plainDay) at(hour, min int) impl.Civil { return civil(d.year, d.month, d.day, hour, min) }

// all the days there are, one behind the other
func plainDays() []plainDay {
	var days []plainDay
	minute, weekday := 0, 4
	for year := 1970; year <= 2099; year++ {
		for month := 1; month <= 12; month++ {
			for day := 1; day <= plainDaysIn(year, month); day++ {
				days = append(days, plainDay{year, month, day, minute, weekday})
				minute += 24 * 60
				weekday++
				if weekday == 7 {
					weekday = 0
				}
			}
		}
	}
	return days
}

func wantMinute(t *testing.T, c impl.Civil, want int) {
	t.Helper()
	if !impl.CivilOk(c) {
		t.Fatalf("CivilOk(%v): false", c)
	}
	if m, ok := impl.MinuteOf(c); m != want || !ok {
		t.Fatalf("MinuteOf(%v): %d, %v, not %d, true", c, m, ok, want)
	}
}

func refuseCivil(t *testing.T, c impl.Civil) {
	t.Helper()
	if impl.CivilOk(c) {
		t.Fatalf("CivilOk(%v): true", c)
	}
	if m, ok := impl.MinuteOf(c); m != 0 || ok {
		t.Fatalf("MinuteOf(%v): %d, %v, not 0, false", c, m, ok)
	}
}

func wantCivil(t *testing.T, m int, want impl.Civil, weekday int) {
	t.Helper()
	if c, ok := impl.CivilOf(m); c != want || !ok {
		t.Fatalf("CivilOf(%d): %v, %v, not %v, true", m, c, ok, want)
	}
	if w := impl.WeekdayOf(m); w != weekday {
		t.Fatalf("WeekdayOf(%d): %d, not %d", m, w, weekday)
	}
}

func refuseMinute(t *testing.T, m int) {
	t.Helper()
	if c, ok := impl.CivilOf(m); c != (impl.Civil{}) || ok {
		t.Fatalf("CivilOf(%d): %v, %v, not the zero value, false", m, c, ok)
	}
	if w := impl.WeekdayOf(m); w != -1 {
		t.Fatalf("WeekdayOf(%d): %d, not -1", m, w)
	}
}

// both ways: the day's minute, and the minute's day
func lookAtMinute(t *testing.T, d plainDay, hour, min int) {
	t.Helper()
	minute := d.minute + hour*60 + min
	wantCivil(t, minute, d.at(hour, min), d.weekday)
	wantMinute(t, d.at(hour, min), minute)
}

func TestCivilConstant(t *testing.T) {
	days := plainDays()
	last := days[len(days)-1]
	if impl.MaxMinute != 68374079 || last.minute+23*60+59 != impl.MaxMinute {
		t.Errorf("MaxMinute: %d; the last day begins at %d", impl.MaxMinute, last.minute)
	}
}

func TestKnownMinutes(t *testing.T) {
	for _, known := range []struct {
		c       impl.Civil
		minute  int
		weekday int
	}{
		{civil(1970, 1, 1, 0, 0), 0, 4},
		{civil(1970, 1, 1, 0, 1), 1, 4},
		{civil(1970, 1, 1, 0, 59), 59, 4},
		{civil(1970, 1, 1, 1, 0), 60, 4},
		{civil(1970, 1, 1, 23, 59), 1439, 4},
		{civil(1970, 1, 2, 0, 0), 1440, 5},
		{civil(1970, 1, 31, 23, 59), 44639, 6},
		{civil(1970, 2, 1, 0, 0), 44640, 0},
		{civil(1970, 2, 28, 23, 59), 84959, 6},
		{civil(1970, 3, 1, 0, 0), 84960, 0},
		{civil(1970, 12, 31, 23, 59), 525599, 4},
		{civil(1971, 1, 1, 0, 0), 525600, 5},
		{civil(1972, 2, 28, 12, 0), 1135440, 1},
		{civil(1972, 2, 29, 0, 0), 1136160, 2},
		{civil(1972, 3, 1, 0, 0), 1137600, 3},
		{civil(1973, 1, 1, 0, 0), 1578240, 1},
		{civil(1999, 12, 31, 23, 59), 15778079, 5},
		{civil(2000, 1, 1, 0, 0), 15778080, 6},
		{civil(2000, 2, 28, 23, 59), 15863039, 1},
		{civil(2000, 2, 29, 0, 0), 15863040, 2},
		{civil(2000, 2, 29, 23, 59), 15864479, 2},
		{civil(2000, 3, 1, 0, 0), 15864480, 3},
		{civil(2000, 12, 31, 23, 59), 16305119, 0},
		{civil(2001, 1, 1, 0, 0), 16305120, 1},
		{civil(2001, 2, 28, 23, 59), 16390079, 3},
		{civil(2001, 3, 1, 0, 0), 16390080, 4},
		{civil(2004, 2, 29, 6, 7), 17967247, 0},
		{civil(2026, 11, 17, 8, 30), 29915070, 2},
		{civil(2038, 1, 19, 3, 14), 35791394, 2},
		{civil(2096, 2, 29, 13, 5), 66355985, 3},
		{civil(2099, 2, 28, 0, 1), 67932001, 6},
		{civil(2099, 12, 30, 23, 59), 68372639, 3},
		{civil(2099, 12, 31, 0, 0), 68372640, 4},
		{civil(2099, 12, 31, 23, 59), 68374079, 4},
	} {
		wantCivil(t, known.minute, known.c, known.weekday)
		wantMinute(t, known.c, known.minute)
	}
}

// promise 9: minutes are told as days and back, on each day there is
func TestEachDayThereAndBack(t *testing.T) {
	days := plainDays()
	if len(days) != 47482 {
		t.Fatalf("%d days", len(days))
	}
	for _, d := range days {
		lookAtMinute(t, d, 0, 0)
		lookAtMinute(t, d, 0, 1)
		lookAtMinute(t, d, 12, 34)
		lookAtMinute(t, d, 23, 0)
		lookAtMinute(t, d, 23, 59)
	}
}

// days around which the calendar turns, and others
func isSomeDay(d plainDay) bool {
	turning := []int{1970, 1972, 1999, 2000, 2001, 2004, 2038, 2096, 2099}
	edge := d.day == 1 || d.day == 15 || d.day >= plainDaysIn(d.year, d.month)-1
	return edge && slices.Contains(turning, d.year)
}

func TestEachMinuteOfSomeDays(t *testing.T) {
	looked := 0
	for _, d := range plainDays() {
		if !isSomeDay(d) {
			continue
		}
		looked++
		for hour := range 24 {
			for min := range 60 {
				lookAtMinute(t, d, hour, min)
			}
		}
	}
	if looked != 9*12*4 {
		t.Errorf("%d days", looked)
	}
}

// promise 9: a day is behind the one ahead
func TestADayIsBehindTheOneAhead(t *testing.T) {
	ends := 0
	days := plainDays()
	for i, d := range days[1:] {
		ahead := days[i]
		if d.day == 1 {
			ends++
		}
		for _, at := range [][2]int{{0, 0}, {11, 59}, {12, 0}, {23, 59}} {
			m, ok := impl.MinuteOf(ahead.at(at[0], at[1]))
			n, right := impl.MinuteOf(d.at(at[0], at[1]))
			if !ok || !right || n != m+1440 {
				t.Fatalf("%v is at %d, and the day behind it, %v, at %d", ahead.at(at[0], at[1]), m, d.at(at[0], at[1]), n)
			}
			c, ok := impl.CivilOf(m + 1440)
			if !ok || c != d.at(at[0], at[1]) {
				t.Fatalf("1440 minutes on from %v is %v, %v", ahead.at(at[0], at[1]), c, ok)
			}
			want := map[int]int{0: 1, 1: 2, 2: 3, 3: 4, 4: 5, 5: 6, 6: 0}[impl.WeekdayOf(m)]
			if w := impl.WeekdayOf(n); w != want {
				t.Fatalf("the weekday %d is behind %d at %v", w, impl.WeekdayOf(m), c)
			}
		}
	}
	if ends != 130*12-1 {
		t.Errorf("%d days behind the last of a month", ends)
	}
}

// what stands behind the last day of each month of each year is 1440 minutes on, by the hand's own look at the next month
func TestBehindTheLastOfEachMonth(t *testing.T) {
	for year := 1970; year <= 2099; year++ {
		for month := 1; month <= 12; month++ {
			last := civil(year, month, impl.DaysIn(year, month), 7, 8)
			next := civil(year, month+1, 1, 7, 8)
			if month == 12 {
				next = civil(year+1, 1, 1, 7, 8)
			}
			m, ok := impl.MinuteOf(last)
			if !ok || impl.WeekdayOf(m) < 0 {
				t.Fatalf("%v: %d, %v", last, m, ok)
			}
			if year == 2099 && month == 12 {
				refuseMinute(t, m+1440)
				refuseCivil(t, next)
				continue
			}
			wantMinute(t, next, m+1440)
			wantCivil(t, m+1440, next, (impl.WeekdayOf(m)+1)%7)
			last.Day++
			refuseCivil(t, last)
		}
	}
}

func TestDrawnMinutes(t *testing.T) {
	days := plainDays()
	d := draw(9)
	for range 200000 {
		m := d.below(impl.MaxMinute + 1)
		day := days[m/1440]
		lookAtMinute(t, day, m%1440/60, m%60)
	}
}

func TestDrawnCivils(t *testing.T) {
	d := draw(99)
	right := 0
	for range 300000 {
		c := civil(1969+d.below(132), d.below(14), d.below(33), d.below(26)-1, d.below(62)-1)
		if !plainCivilOk(c) {
			refuseCivil(t, c)
			continue
		}
		right++
		m, ok := impl.MinuteOf(c)
		back, alsoOk := impl.CivilOf(m)
		if !impl.CivilOk(c) || !ok || !alsoOk || back != c {
			t.Fatalf("%v: %d, %v, and back %v, %v", c, m, ok, back, alsoOk)
		}
	}
	if right < 150000 || right > 290000 {
		t.Errorf("%d right ones", right)
	}
}

func TestLeapYearFixed(t *testing.T) {
	for _, known := range []struct {
		year int
		leap bool
	}{
		{1900, false}, {1970, false}, {1971, false}, {1972, true}, {1973, false}, {1996, true}, {1999, false}, {2000, true}, {2001, false},
		{2004, true}, {2096, true}, {2099, false}, {2100, false}, {2104, true}, {2200, false}, {2300, false}, {2400, true}, {1600, true}, {1700, false},
		{0, true}, {1, false}, {2, false}, {3, false}, {4, true}, {100, false}, {200, false}, {300, false}, {400, true},
		{-1, false}, {-2, false}, {-3, false}, {-4, true}, {-5, false}, {-100, false}, {-200, false}, {-300, false}, {-400, true}, {-404, true}, {-500, false},
		// near the ends of what an int holds
		{math.MaxInt64, false}, {math.MaxInt64 - 1, false}, {math.MaxInt64 - 3, true},
		{9223372036854775800, false}, {9223372036854775700, false}, {9223372036854775600, true},
		{math.MinInt64, true}, {math.MinInt64 + 1, false}, {math.MinInt64 + 2, false}, {math.MinInt64 + 4, true},
		{-9223372036854775800, false}, {-9223372036854775700, false}, {-9223372036854775600, true},
		// what would be another year in 32 bits or in 16
		{1<<32 + 1900, true}, {1<<32 + 4, false}, {-1<<32 - 4, false}, {1<<16 + 164, false}, {-1<<16 - 164, false}, {1<<16 + 1900, true},
	} {
		if leap := impl.LeapYear(known.year); leap != known.leap {
			t.Errorf("LeapYear(%d): %v", known.year, leap)
		}
	}
}

// the years counted up from 0 on, and down, with no division
func TestLeapYearByTheWords(t *testing.T) {
	four, hundred, fourHundred := 0, 0, 0
	for year := range 10000 {
		want := four == 0 && hundred != 0 || fourHundred == 0
		if impl.LeapYear(year) != want || impl.LeapYear(-year) != want {
			t.Fatalf("LeapYear(%d): %v, LeapYear(%d): %v", year, impl.LeapYear(year), -year, impl.LeapYear(-year))
		}
		if four++; four == 4 {
			four = 0
		}
		if hundred++; hundred == 100 {
			hundred = 0
		}
		if fourHundred++; fourHundred == 400 {
			fourHundred = 0
		}
	}
	for year := 1970; year <= 2099; year++ {
		if impl.LeapYear(year) != slices.Contains(handLeapYears(), year) {
			t.Errorf("LeapYear(%d): %v", year, impl.LeapYear(year))
		}
	}
}

// years with 29 February, and without, wherever an int can be
func manyYears() (leap, others []int) {
	leap = []int{2000, 1972, 2004, 2096, 2400, 1600, 400, 4, 0, -4, -400, math.MinInt64, math.MaxInt64 - 3}
	others = []int{2001, 1970, 1900, 2100, 2099, 1999, 100, 1, -1, -100, -200, math.MinInt64 + 1, math.MaxInt64}
	return leap, others
}

func TestDaysIn(t *testing.T) {
	inLeap := []int{31, 29, 31, 30, 31, 30, 31, 31, 30, 31, 30, 31}
	leap, others := manyYears()
	for m := 1; m <= 12; m++ {
		for _, y := range leap {
			if n := impl.DaysIn(y, m); n != inLeap[m-1] {
				t.Errorf("DaysIn(%d, %d): %d", y, m, n)
			}
		}
		for _, y := range others {
			if n := impl.DaysIn(y, m); n != plainMonths()[m-1] {
				t.Errorf("DaysIn(%d, %d): %d", y, m, n)
			}
		}
		for y := 1970; y <= 2099; y++ {
			if n := impl.DaysIn(y, m); n != plainDaysIn(y, m) {
				t.Errorf("DaysIn(%d, %d): %d", y, m, n)
			}
		}
	}
}

func wrongMonths() []int {
	return []int{
		0, -1, -2, -11, -12, 13, 14, 24, 25, 31, math.MaxInt64, math.MinInt64, math.MaxInt64 - 1, math.MinInt64 + 1,
		1 << 8, 1<<8 + 2, 1<<16 + 2, 1<<32 + 2, -1<<32 + 2, 1<<62 + 12, math.MinInt64 + 2,
	}
}

func TestDaysInOfNoMonth(t *testing.T) {
	leap, others := manyYears()
	for _, y := range slices.Concat(leap, others) {
		for _, m := range wrongMonths() {
			if n := impl.DaysIn(y, m); n != 0 {
				t.Errorf("DaysIn(%d, %d): %d", y, m, n)
			}
		}
		for m := -1000; m <= 1000; m++ {
			if n := impl.DaysIn(y, m); (n == 0) != (m < 1 || m > 12) {
				t.Errorf("DaysIn(%d, %d): %d", y, m, n)
			}
		}
	}
}

func TestWrongCivils(t *testing.T) {
	for _, c := range []impl.Civil{
		{},
		civil(1969, 12, 31, 23, 59), civil(1969, 1, 1, 0, 0), civil(2100, 1, 1, 0, 0), civil(2100, 2, 28, 0, 0),
		civil(0, 1, 1, 0, 0), civil(-1, 1, 1, 0, 0), civil(-2000, 1, 1, 0, 0), civil(70, 1, 1, 0, 0), civil(1968, 2, 29, 0, 0), civil(2104, 2, 29, 0, 0),
		civil(2000, 0, 1, 0, 0), civil(2000, 13, 1, 0, 0), civil(2000, -1, 1, 0, 0), civil(1999, 13, 1, 0, 0), civil(1970, 0, 31, 0, 0),
		civil(2000, 1, 0, 0, 0), civil(2000, 3, 0, 0, 0), civil(2000, 1, -1, 0, 0), civil(1970, 1, 0, 0, 0), civil(2000, 0, 0, 0, 0), civil(2000, 13, 0, 0, 0),
		civil(2001, 2, 29, 0, 0), civil(2000, 2, 30, 0, 0), civil(2000, 2, 31, 0, 0), civil(1970, 2, 29, 0, 0), civil(2099, 2, 29, 0, 0),
		civil(2000, 4, 31, 0, 0), civil(2000, 6, 31, 0, 0), civil(2000, 9, 31, 0, 0), civil(2000, 11, 31, 0, 0),
		civil(2000, 1, 32, 0, 0), civil(2000, 7, 32, 0, 0), civil(2000, 8, 32, 0, 0), civil(2099, 12, 32, 0, 0),
		civil(2000, 1, 1, -1, 0), civil(2000, 1, 1, 24, 0), civil(2000, 1, 1, 25, 0), civil(2000, 1, 2, -24, 0),
		civil(2000, 1, 1, 0, -1), civil(2000, 1, 1, 0, 60), civil(2000, 1, 1, 0, 61), civil(2000, 1, 1, 1, -60), civil(2000, 1, 1, 23, 60), civil(2000, 1, 1, 24, 59),
	} {
		refuseCivil(t, c)
	}
}

// each field at the numbers around its limits and at the ends of what an int holds, with each other
func TestCivilsOfEdgeFields(t *testing.T) {
	strange := []int{math.MinInt64, math.MinInt64 + 1, -1, math.MaxInt64, 1<<32 + 1}
	years := append([]int{0, 1969, 1970, 1972, 2000, 2001, 2099, 2100, 1<<32 + 2000, -1<<16 + 2000}, strange...)
	months := append([]int{0, 1, 2, 4, 11, 12, 13}, strange...)
	days := append([]int{0, 1, 28, 29, 30, 31, 32}, strange...)
	hours := append([]int{0, 1, 23, 24}, strange...)
	mins := append([]int{0, 1, 59, 60}, strange...)
	right := 0
	for _, year := range years {
		for _, month := range months {
			for _, day := range days {
				for _, hour := range hours {
					for _, min := range mins {
						c := civil(year, month, day, hour, min)
						if !plainCivilOk(c) {
							refuseCivil(t, c)
							continue
						}
						right++
						m, ok := impl.MinuteOf(c)
						if !impl.CivilOk(c) || !ok {
							t.Fatalf("%v: %d, %v", c, m, ok)
						}
						wantCivil(t, m, c, impl.WeekdayOf(m))
					}
				}
			}
		}
	}
	// in each of five years two months of 31 days, two of 30 and one of 28, which in two of the years has 29; three hours and three minutes
	if want := (5*(2*5+2*4+2) + 2) * 9; right != want {
		t.Errorf("%d right ones, not %d", right, want)
	}
}

func TestWrongMinutes(t *testing.T) {
	for _, m := range []int{
		-1, -2, -60, -1439, -1440, -1441, -impl.MaxMinute, impl.MaxMinute + 1, impl.MaxMinute + 2, impl.MaxMinute + 1440, impl.MaxMinute + 1441,
		1 << 32, 1<<32 + 1, -1 << 32, -1<<32 + 1, 1 << 62, math.MaxInt64, math.MaxInt64 - 1, math.MinInt64, math.MinInt64 + 1,
	} {
		refuseMinute(t, m)
	}
	for n := range 5000 {
		refuseMinute(t, -1-n)
		refuseMinute(t, impl.MaxMinute+1+n)
	}
	wantCivil(t, 0, civil(1970, 1, 1, 0, 0), 4)
	wantCivil(t, impl.MaxMinute, civil(2099, 12, 31, 23, 59), 4)
}

// later minutes are told as later days, however far apart they are
func TestLaterMinutesAreLaterDays(t *testing.T) {
	key := func(c impl.Civil) int { return (((c.Year*100+c.Month)*100+c.Day)*100+c.Hour)*100 + c.Min }
	last := -1
	for m := 0; m <= impl.MaxMinute; m += 37 {
		c, ok := impl.CivilOf(m)
		if !ok || !impl.CivilOk(c) || key(c) <= last {
			t.Fatalf("CivilOf(%d): %v, %v, behind %d", m, c, ok, last)
		}
		last = key(c)
	}
}
