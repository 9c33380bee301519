package tests

import (
	"math"
	"slices"
	"testing"

	"loop.example/g00188/impl"
)

func span(from, to int) impl.Span { return impl.Span{From: from, To: to} }

// the spans whose From and To these are, one behind the other
func spansOf(ends ...int) []impl.Span {
	var list []impl.Span
	for at := 0; at+1 < len(ends); at += 2 {
		list = append(list, span(ends[at], ends[at+1]))
	}
	return list
}

// the spans from each of these minutes to the next
func spansBetween(times ...int) []impl.Span {
	var list []impl.Span
	for at := 1; at < len(times); at++ {
		list = append(list, span(times[at-1], times[at]))
	}
	return list
}

// the first so many of a list
func firstOf(list []impl.Span, most int) []impl.Span { return list[:max(0, min(most, len(list)))] }

// how many are asked for, around what is told at most and at the ends of what an int holds
func edgeMosts() []int {
	return []int{math.MinInt64, math.MinInt64 + 1, -1 << 32, -20, -1, 0, 1, 2, 3, 19, 20, 21, 22, 199, 200, 201, 1 << 32, 1<<32 + 1, math.MaxInt64 - 1, math.MaxInt64}
}

// the minutes of a right rule from `from` on, none of which lies more than 400 days behind the day of the minute from which it is waited for
func plainTimes(days []plainDay, c impl.Cron, from, most int) []int {
	if !plainCronOk(c) || from < 0 || from > impl.MaxMinute {
		return nil
	}
	var times []int
	waiting := from / 1440
	for at := waiting; at < len(days) && at <= waiting+400; at++ {
		if !plainOnDay(c, days[at]) {
			continue
		}
		for _, hour := range c.Hours {
			for _, minute := range c.Mins {
				m := days[at].minute + hour*60 + minute
				if m < from {
					continue
				}
				if len(times) == most {
					return times
				}
				times = append(times, m)
				waiting = at
				if m%1440 == 1439 {
					waiting = at + 1
				}
			}
		}
	}
	return times
}

// the spans of these minutes that do not end above upto, 200 at most
func plainSpans(times []int, upto int) []impl.Span {
	list := spansBetween(times...)
	for at, s := range list {
		if s.To > upto {
			return firstOf(list[:at], 200)
		}
	}
	return firstOf(list, 200)
}

func wantSpans(t *testing.T, c impl.Cron, from, upto, most int, want []impl.Span) {
	t.Helper()
	if got := impl.Spans(c, from, upto, most); !slices.Equal(got, want) {
		t.Fatalf("Spans(%s, %d, %d, %d) = %v, want %v", tellCron(c), from, upto, most, got, want)
	}
}

func wantLatest(t *testing.T, c impl.Cron, from, upto int, want impl.Span, there bool) {
	t.Helper()
	if got, ok := impl.Latest(c, from, upto); got != want || ok != there {
		t.Fatalf("Latest(%s, %d, %d) = %v, %v, want %v, %v", tellCron(c), from, upto, got, ok, want, there)
	}
}

func wantLacking(t *testing.T, list []impl.Span, have []int, want []impl.Span) {
	t.Helper()
	if got := impl.Lacking(list, have); !slices.Equal(got, want) {
		t.Fatalf("Lacking(%v, %v) = %v, want %v", list, have, got, want)
	}
}

// Spans and Latest, where all spans from `from` up to upto (or 200 of them, when there are more) are these
func wantAll(t *testing.T, c impl.Cron, from, upto int, all []impl.Span) {
	t.Helper()
	for _, most := range []int{-1, 0, 1, 2, len(all) - 1, len(all), len(all) + 1, 19, 20, 21, math.MinInt64, math.MaxInt64} {
		wantSpans(t, c, from, upto, most, firstOf(all, min(most, 20)))
	}
	if len(all) == 0 {
		wantLatest(t, c, from, upto, impl.Span{}, false)
		return
	}
	wantLatest(t, c, from, upto, all[len(all)-1], true)
}

func wantNone(t *testing.T, c impl.Cron, from, upto int) {
	t.Helper()
	wantAll(t, c, from, upto, nil)
}

func TestSpanConstant(t *testing.T) {
	if impl.MaxDays != 400 {
		t.Errorf("MaxDays = %d", impl.MaxDays)
	}
}

func TestKnownSpans(t *testing.T) {
	const last = impl.MaxMinute
	at := func(year, month, day, hour, min int) int { return mustMinute(t, civil(year, month, day, hour, min)) }
	for _, known := range []struct {
		rule       string
		from, upto int
		want       []impl.Span
	}{
		{"0 * * * *", 1, 200, spansOf(60, 120, 120, 180)},
		{"0 * * * *", 0, 200, spansOf(0, 60, 60, 120, 120, 180)},
		{"0 * * * *", 60, 200, spansOf(60, 120, 120, 180)},
		{"0 * * * *", 61, 200, spansOf(120, 180)},
		{"0 * * * *", 60, 120, spansOf(60, 120)},
		{"0 * * * *", 60, 119, nil},
		{"0 * * * *", 60, 121, spansOf(60, 120)},
		{"0 * * * *", 60, 60, nil},
		{"0 * * * *", 60, 0, nil},
		{"0 * * * *", 121, 180, nil},
		{"* * * * *", 0, 0, nil},
		{"* * * * *", 0, 1, spansOf(0, 1)},
		{"* * * * *", 0, 3, spansOf(0, 1, 1, 2, 2, 3)},
		{"* * * * *", 1438, 1441, spansOf(1438, 1439, 1439, 1440, 1440, 1441)},
		{"*/30 3,1 * * 1-5", 61, 1530, spansOf(90, 180, 180, 210, 210, 1500, 1500, 1530)},
		{"*/30 3,1 * * 1-5", 61, 1499, spansOf(90, 180, 180, 210)},
		{"0 12 * * 1", 0, 20880, spansOf(6480, 16560)},
		{"59 23 * * *", 0, 4319, spansOf(1439, 2879, 2879, 4319)},
		{"0 0 13 * 5", 0, 17280, spansOf(1440, 11520, 11520, 17280)},
		{"0 0 1 1 *", 0, 1578240, spansOf(0, 525600, 525600, 1051200, 1051200, 1578240)},
		{"0 0 31 * *", at(2001, 1, 1, 0, 0), at(2001, 5, 31, 0, 0), spansBetween(at(2001, 1, 31, 0, 0), at(2001, 3, 31, 0, 0), at(2001, 5, 31, 0, 0))},
		{"0,30 0 29 2 *", at(1972, 1, 1, 0, 0), last, spansOf(1136160, 1136190)},
		{"0 0 29 2 *", at(1972, 1, 1, 0, 0), last, nil},
		{"59 23 31 12 *", last - 525600, last, spansOf(last-525600, last)},
		{"* * * * *", last - 2, last, spansOf(last-2, last-1, last-1, last)},
		{"* * * * *", last, last, nil},
	} {
		wantAll(t, mustParse(t, known.rule), known.from, known.upto, known.want)
	}
}

// the spans between minutes that are all there are from `from` on up to upto, and no wait among them is too long
func lookAtWindow(t *testing.T, c impl.Cron, from, upto int, times []int) {
	t.Helper()
	all := spansBetween(times...)
	wantAll(t, c, from, upto, firstOf(all, 200))
	// what the promise says, asked of the answer itself
	list := impl.Spans(c, from, upto, 20)
	for at, s := range list {
		if s.To <= s.From || s.To > upto || !impl.Fires(c, s.From) || !impl.Fires(c, s.To) || at > 0 && list[at-1].To != s.From {
			t.Fatalf("Spans(%s, %d, %d, 20) = %v: number %d does not follow", tellCron(c), from, upto, list, at)
		}
	}
	chain, ok := impl.NextFire(c, from, impl.MaxDays)
	for _, s := range list {
		next, more := impl.NextFire(c, chain+1, impl.MaxDays)
		if !ok || !more || s != span(chain, next) {
			t.Fatalf("Spans(%s, %d, %d, 20) has %v, NextFire has %d, %v and %d, %v", tellCron(c), from, upto, s, chain, ok, next, more)
		}
		chain = next
	}
	if next, more := impl.NextFire(c, chain+1, impl.MaxDays); len(list) < 20 && ok && more && next <= upto {
		t.Fatalf("Spans(%s, %d, %d, 20) = %v leaves out %v", tellCron(c), from, upto, list, span(chain, next))
	}
}

// promise 11 against Fires, minute by minute: upto less than 400 days behind from, or behind the last minute
func lookMinuteByMinute(t *testing.T, c impl.Cron, from, upto int) int {
	t.Helper()
	var times []int
	for m := from; m <= min(upto, impl.MaxMinute); m++ {
		if impl.Fires(c, m) {
			times = append(times, m)
		}
	}
	lookAtWindow(t, c, from, upto, times)
	return max(0, len(times)-1)
}

func TestSpansMinuteByMinute(t *testing.T) {
	at := func(year, month, day, hour, min int) int { return mustMinute(t, civil(year, month, day, hour, min)) }
	found := 0
	for _, c := range dayRules(t) {
		for _, from := range []int{
			0, 1, at(1970, 1, 31, 12, 0), at(1971, 12, 31, 23, 59), at(1972, 2, 28, 12, 1), at(1999, 12, 31, 23, 58),
			at(2000, 2, 29, 0, 1), at(2001, 2, 28, 23, 59), at(2099, 12, 30, 12, 1), impl.MaxMinute - 1, impl.MaxMinute,
		} {
			for _, upto := range []int{from - 1, from, from + 1, from + 2, from + 60, from + 1440, from + 5000} {
				found += lookMinuteByMinute(t, c, from, upto)
			}
		}
	}
	for _, text := range []string{"*/7 */5 * * *", "1-3 */11 * * *", "58,59 23 * * *", "0,59 0,23 * * *", "59 * * * *", "30 6,18 1,15,31 * *", "*/13 * * * *"} {
		c := mustParse(t, text)
		for from := 1390; from <= 1500; from++ {
			found += lookMinuteByMinute(t, c, from, from+3000)
		}
	}
	d := draw(11)
	for range 400 {
		c := drawnCron(&d)
		from := d.below(impl.MaxMinute + 1)
		found += lookMinuteByMinute(t, c, from, from+d.below(8000))
		from = impl.MaxMinute - d.below(6000)
		found += lookMinuteByMinute(t, c, from, from+d.below(8000))
	}
	if found < 10000 {
		t.Errorf("%d spans", found)
	}
}

// spans of months and years, minute by minute
func TestLongSpansMinuteByMinute(t *testing.T) {
	at := func(year, month, day, hour, min int) int { return mustMinute(t, civil(year, month, day, hour, min)) }
	for _, known := range []struct {
		rule       string
		from, upto int
		spans      int
	}{
		{"0 12 31 * *", at(2001, 1, 31, 12, 1), at(2002, 1, 31, 12, 0), 6},
		{"7 3 1 * *", at(2024, 2, 1, 3, 8), at(2025, 3, 1, 3, 7), 12},
		{"0 0 28 2 *", at(1971, 2, 28, 0, 0), at(1972, 2, 29, 0, 0), 1},
		{"0 0 1 3 *", at(1971, 3, 1, 0, 0), at(1972, 3, 1, 0, 0), 1},
		{"0 0 1 3 *", at(1971, 3, 1, 0, 1), at(1972, 3, 1, 0, 0), 0},
		{"59 23 31 12 *", at(2098, 12, 31, 23, 59), impl.MaxMinute, 1},
		{"59 23 31 12 *", at(2099, 1, 1, 0, 0), impl.MaxMinute, 0},
		{"0 0 29 2 *", at(2095, 6, 1, 0, 0), at(2096, 6, 1, 0, 0), 0},
		{"0 0 30 2 *", at(2023, 12, 31, 0, 0), at(2024, 12, 31, 0, 0), 0},
		{"0 0 * 2 1", at(2023, 2, 1, 0, 0), at(2024, 2, 29, 0, 0), 7},
	} {
		if spans := lookMinuteByMinute(t, mustParse(t, known.rule), known.from, known.upto); spans != known.spans {
			t.Errorf("%s has %d spans from %d up to %d, not %d", known.rule, spans, known.from, known.upto, known.spans)
		}
	}
}

// against the calendar that is counted by hand: over years, with waits of any length
func TestDrawnSpans(t *testing.T) {
	days := plainDays()
	d := draw(1011)
	counts := [4]int{}
	look := func(c impl.Cron, from, upto int) {
		t.Helper()
		all := plainSpans(plainTimes(days, c, from, 201), upto)
		wantAll(t, c, from, upto, all)
		switch {
		case len(all) == 0:
			counts[0]++
		case len(all) <= 20:
			counts[1]++
		case len(all) < 200:
			counts[2]++
		default:
			counts[3]++
		}
	}
	for range 500 {
		c := drawnCron(&d)
		from := d.below(impl.MaxMinute + 1)
		look(c, from, from+d.below(3000))
		look(c, from, from+d.below(600000))
		look(c, from, d.below(impl.MaxMinute+1))
		from = impl.MaxMinute - d.below(900000)
		look(c, from, from+d.below(900000))
	}
	rules := dayRules(t)
	for range 500 {
		c := rules[d.below(len(rules))]
		from := d.below(impl.MaxMinute + 1)
		look(c, from, from+d.below(impl.MaxMinute/4))
		look(c, impl.MaxMinute-d.below(5000000), impl.MaxMinute-d.below(1000000))
	}
	for kind, count := range counts {
		if count < 100 {
			t.Errorf("%d of kind %d", count, kind)
		}
	}
}

// what is told from the end of a span on goes on where that list ends
func TestSpansGoOn(t *testing.T) {
	days := plainDays()
	d := draw(2011)
	rules := append(dayRules(t), drawnCron(&d), drawnCron(&d), drawnCron(&d))
	for _, c := range rules {
		from := d.below(impl.MaxMinute / 2)
		times := plainTimes(days, c, from, 60)
		if len(times) < 2 {
			continue
		}
		upto := times[len(times)-1]
		var list []impl.Span
		for begin := from; ; begin = list[len(list)-1].To {
			more := impl.Spans(c, begin, upto, 1+d.below(25))
			if len(more) == 0 {
				break
			}
			list = append(list, more...)
		}
		if !slices.Equal(list, spansBetween(times...)) {
			t.Fatalf("Spans(%s) from %d on, from the end of one list to the next: %v, want those of %v", tellCron(c), from, list, times)
		}
	}
}

// how many are asked for: below 1 none, above 20 no more than 20
func TestSpansHowMany(t *testing.T) {
	days := plainDays()
	for _, text := range []string{"* * * * *", "0 * * * *", "59 23 * * *", "0 0 1 1 *", "*/20 */8 1,15 3-5 0,6"} {
		c := mustParse(t, text)
		for _, from := range []int{0, 1, 1136160, 30000000} {
			times := plainTimes(days, c, from, 31)
			all := spansBetween(times...)
			if len(all) != 30 {
				t.Fatalf("%s has %d spans from %d on", text, len(all), from)
			}
			for _, many := range []int{0, 1, 2, 19, 20, 21, 30} {
				for _, most := range edgeMosts() {
					wantSpans(t, c, from, times[many], most, firstOf(all[:many], min(most, 20)))
				}
			}
		}
	}
	for _, known := range []struct{ most, want int }{{math.MinInt64, 0}, {-1, 0}, {0, 0}, {1, 1}, {20, 20}, {21, 20}, {math.MaxInt64, 20}} {
		if got := impl.Spans(mustParse(t, "* * * * *"), 0, impl.MaxMinute, known.most); len(got) != known.want {
			t.Errorf("%d spans of at most %d, not %d", len(got), known.most, known.want)
		}
	}
}

// upto just the minute that a span ends with, one below it and one above it: the span is told, is not, and is
func TestSpansUpToAMinute(t *testing.T) {
	days := plainDays()
	d := draw(3011)
	rules := dayRules(t)
	for range 30 {
		rules = append(rules, drawnCron(&d))
	}
	for _, c := range rules {
		for _, from := range []int{0, 15863041, d.below(impl.MaxMinute + 1), impl.MaxMinute - 3000} {
			times := plainTimes(days, c, from, 24)
			for _, at := range []int{0, 1, 2, 11, 19, 20, 21} {
				if at >= len(times) {
					break
				}
				for _, upto := range []int{times[at] - 1, times[at], times[at] + 1} {
					wantAll(t, c, from, upto, plainSpans(times, upto))
				}
			}
		}
	}
	hourly := mustParse(t, "0 * * * *")
	wantAll(t, hourly, 0, 59, nil)
	wantAll(t, hourly, 0, 60, spansOf(0, 60))
	wantAll(t, hourly, 0, 61, spansOf(0, 60))
	wantAll(t, hourly, 0, 119, spansOf(0, 60))
	wantAll(t, hourly, 0, 120, spansOf(0, 60, 60, 120))
}

// the last of all spans, of which Spans tells 20 at most: up to a minute that fires, one behind it, and one ahead of the next
func TestLatestIsTheLast(t *testing.T) {
	days := plainDays()
	for _, text := range []string{"* * * * *", "0 * * * *", "*/7 */5 * * *", "0 12 * * 1-5", "59 23 31 * *"} {
		c := mustParse(t, text)
		for _, from := range []int{0, 7, 1136160, 15863041} {
			times := plainTimes(days, c, from, 211)
			if len(times) != 211 {
				t.Fatalf("%s has %d times", text, len(times))
			}
			for _, many := range append(upTo(0, 24), 60, 140, 197, 198, 199, 200, 201, 202, 209) {
				for _, upto := range []int{times[many], times[many] + 1, times[many+1] - 1} {
					if upto >= times[many+1] {
						continue
					}
					if many == 0 {
						wantLatest(t, c, from, upto, impl.Span{}, false)
						continue
					}
					counted := min(many, 200)
					wantLatest(t, c, from, upto, span(times[counted-1], times[counted]), true)
					list := impl.Spans(c, from, upto, 20)
					if latest, _ := impl.Latest(c, from, upto); many <= 20 && latest != list[len(list)-1] || many > 20 && latest.From < list[19].To {
						t.Fatalf("%s: the latest from %d up to %d is %v, the spans are %v", text, from, upto, latest, list)
					}
				}
			}
			wantLatest(t, c, from, times[0]-1, impl.Span{}, false)
			wantLatest(t, c, from, impl.MaxMinute, span(times[199], times[200]), true)
			wantLatest(t, c, from, math.MaxInt64, span(times[199], times[200]), true)
		}
	}
}

func TestKnownLatests(t *testing.T) {
	const last = impl.MaxMinute
	for _, known := range []struct {
		rule       string
		from, upto int
		want       impl.Span
		there      bool
	}{
		{"0 * * * *", 1, 200, span(120, 180), true},
		{"0 * * * *", 1, 119, impl.Span{}, false},
		{"0 * * * *", 1, 120, span(60, 120), true},
		{"* * * * *", 0, 0, impl.Span{}, false},
		{"* * * * *", 0, 1, span(0, 1), true},
		{"* * * * *", 0, 20, span(19, 20), true},
		{"* * * * *", 0, 21, span(20, 21), true},
		{"* * * * *", 0, 22, span(21, 22), true},
		{"* * * * *", 0, 100, span(99, 100), true},
		{"* * * * *", 0, 199, span(198, 199), true},
		{"* * * * *", 0, 200, span(199, 200), true},
		{"* * * * *", 0, 201, span(199, 200), true},
		{"* * * * *", 0, 202, span(199, 200), true},
		{"* * * * *", 0, 1000, span(199, 200), true},
		{"* * * * *", 1000, last, span(1199, 1200), true},
		{"0 * * * *", 0, 11940, span(11880, 11940), true},
		{"0 * * * *", 0, 12000, span(11940, 12000), true},
		{"0 * * * *", 0, 12060, span(11940, 12000), true},
		{"* * * * *", last - 199, last, span(last-1, last), true},
		{"* * * * *", last - 200, last, span(last-1, last), true},
		{"* * * * *", last - 201, last, span(last-2, last-1), true},
		{"* * * * *", last - 1, last, span(last-1, last), true},
		{"* * * * *", last, last, impl.Span{}, false},
		{"* * * * *", last, math.MaxInt64, impl.Span{}, false},
		// one a year, of which there are 129 in all
		{"0 0 1 1 *", 0, last, span(mustMinute(t, civil(2098, 1, 1, 0, 0)), mustMinute(t, civil(2099, 1, 1, 0, 0))), true},
	} {
		wantLatest(t, mustParse(t, known.rule), known.from, known.upto, known.want, known.there)
	}
}

// from and upto at and near the last minute: there is no minute behind it
func TestSpansAtTheEndOfTime(t *testing.T) {
	const last = impl.MaxMinute
	every, final, ahead := mustParse(t, "* * * * *"), mustParse(t, "59 23 31 12 *"), mustParse(t, "58 23 31 12 *")
	both, begin, daily := mustParse(t, "58,59 23 31 12 *"), mustParse(t, "0 0 31 12 *"), mustParse(t, "59 23 * * *")
	above := []int{last, last + 1, last + 2, last + 1440, 1 << 32, math.MaxInt64 - 1, math.MaxInt64}
	for _, upto := range above {
		wantNone(t, every, last, upto)
		wantAll(t, every, last-1, upto, spansOf(last-1, last))
		wantAll(t, every, last-2, upto, spansOf(last-2, last-1, last-1, last))
		for back := range 25 {
			wantAll(t, every, last-back, upto, spansBetween(upTo(last-back, last)...))
		}
		wantNone(t, final, last, upto)
		wantNone(t, final, last-1, upto)
		wantNone(t, final, last-525599, upto)
		wantAll(t, final, last-525600, upto, spansOf(last-525600, last))
		wantNone(t, ahead, last, upto)
		wantNone(t, ahead, last-1, upto)
		wantNone(t, ahead, last-525600, upto)
		wantAll(t, ahead, last-525601, upto, spansOf(last-525601, last-1))
		wantNone(t, both, last, upto)
		wantAll(t, both, last-1, upto, spansOf(last-1, last))
		wantAll(t, both, last-2, upto, spansOf(last-1, last))
		wantAll(t, both, last-525600, upto, spansOf(last-525600, last-1, last-1, last))
		wantNone(t, begin, last-1439, upto)
		wantNone(t, begin, last-1438, upto)
		wantNone(t, daily, last, upto)
		wantNone(t, daily, last-1439, upto)
		wantAll(t, daily, last-1440, upto, spansOf(last-1440, last))
		wantAll(t, daily, last-2880, upto, spansOf(last-2880, last-1440, last-1440, last))
	}
	wantAll(t, every, last-2, last-1, spansOf(last-2, last-1))
	wantNone(t, every, last-1, last-1)
	wantNone(t, every, last, last-1)
	wantNone(t, final, last-525600, last-1)
	wantAll(t, both, last-525600, last-1, spansOf(last-525600, last-1))
	wantNone(t, daily, last-1440, last-1)
}

// upto below from, or below all minutes
func TestSpansUpToNothing(t *testing.T) {
	d := draw(4011)
	rules := append(dayRules(t), drawnCron(&d), drawnCron(&d))
	for _, c := range rules {
		for _, from := range []int{0, 1, 59, 1440, 1136160, 1136161, d.below(impl.MaxMinute), impl.MaxMinute - 1, impl.MaxMinute} {
			for _, upto := range []int{from, from - 1, from - 2, from - 1440, 0, -1, -from - 1, -1 << 32, math.MinInt64, math.MinInt64 + 1} {
				if upto <= from {
					wantNone(t, c, from, upto)
				}
			}
		}
	}
}

// a minute on the last of the 400 days behind is met, on the day behind that one it is not
func TestSpansAfterAWait(t *testing.T) {
	at := func(year, month, day, hour, min int) int { return mustMinute(t, civil(year, month, day, hour, min)) }
	for _, known := range []struct {
		rule     string
		day      int // the begin of a day on which it fires
		from, to int // the first span there, from the day's begin on
	}{
		{"0,30 0 29 2 *", at(1976, 2, 29, 0, 0), 0, 30},
		{"29 0,23 29 2 *", at(1976, 2, 29, 0, 0), 29, 23*60 + 29},
		{"58,59 23 29 2 *", at(2000, 2, 29, 0, 0), 1438, 1439},
		{"0 0,1 29 2 0-6", at(2096, 2, 29, 0, 0), 0, 60},
		{"* * 29 2 *", at(2004, 2, 29, 0, 0), 0, 1},
	} {
		c := mustParse(t, known.rule)
		want := span(known.day+known.from, known.day+known.to)
		for _, time := range []int{0, 1, 720, 1438, 1439} {
			for _, wait := range []int{1, 30, 365, 366, 367, 398, 399, 400} {
				from := known.day - wait*1440 + time
				wantSpans(t, c, from, want.To, 20, []impl.Span{want})
				wantSpans(t, c, from, want.To-1, 20, nil)
				wantLatest(t, c, from, want.To, want, true)
				wantLatest(t, c, from, want.To-1, impl.Span{}, false)
				if first := impl.Spans(c, from, math.MaxInt64, 1); !slices.Equal(first, []impl.Span{want}) {
					t.Fatalf("Spans(%s, %d) begins with %v, want %v", known.rule, from, first, want)
				}
			}
			for _, wait := range []int{401, 402, 403, 500, 730, 1000, 1059} {
				from := known.day - wait*1440 + time
				for _, upto := range []int{want.To - 1, want.To, want.To + 1, impl.MaxMinute, math.MaxInt64} {
					wantNone(t, c, from, upto)
				}
			}
		}
	}
}

// a wait for the end of a span: from 29 February to the next it is too long, of a year it is not
func TestSpansThatEndAfterAWait(t *testing.T) {
	at := func(year, month, day, hour, min int) int { return mustMinute(t, civil(year, month, day, hour, min)) }
	for _, text := range []string{"0 0 29 2 *", "59 23 29 2 *", "30 12 29 2 *", "30 12 29 2 0-6"} {
		c := mustParse(t, text)
		for _, year := range handLeapYears() {
			m := at(year, 2, 29, c.Hours[0], c.Mins[0])
			wantFires(t, c, m, true)
			for _, from := range []int{m, m - 1, m - 1440, m - 400*1440, m + 1, m + 1440} {
				wantNone(t, c, from, impl.MaxMinute)
			}
		}
	}
	// the last span of a leap day is within it
	c := mustParse(t, "*/20 23 29 2 *")
	for _, year := range handLeapYears() {
		m := at(year, 2, 29, 23, 0)
		wantAll(t, c, m, math.MaxInt64, spansOf(m, m+20, m+20, m+40))
		wantAll(t, c, m-1440, m+39, spansOf(m, m+20))
		wantNone(t, c, m+40, math.MaxInt64)
	}
	// one day of each year, in years of 365 and of 366 days
	for _, text := range []string{"0 0 1 1 *", "59 23 31 12 *", "0 0 28 2 *", "59 23 28 2 *", "0 0 1 3 *", "59 23 1 3 *"} {
		c := mustParse(t, text)
		var times []int
		for year := 1970; year <= 2099; year++ {
			times = append(times, at(year, c.Months[0], c.Days[0], c.Hours[0], c.Mins[0]))
		}
		all := spansBetween(times...)
		for _, year := range []int{0, 1, 2, 3, 77, 108, 109, 110, 126, 127, 128, 129} {
			wantAll(t, c, times[year], impl.MaxMinute, all[year:])
			if year > 0 {
				wantAll(t, c, times[year-1]+1, math.MaxInt64, all[year:])
			}
		}
	}
	// days of one month alone: from its last one to the first of the next year
	c = mustParse(t, "0 0 1,31 1 *")
	wantAll(t, c, at(2000, 1, 31, 0, 0), at(2002, 1, 1, 0, 0), spansBetween(at(2000, 1, 31, 0, 0), at(2001, 1, 1, 0, 0), at(2001, 1, 31, 0, 0), at(2002, 1, 1, 0, 0)))
	for _, text := range []string{"0 0 30 2 *", "* * 31 4,6,9,11 *", "0 0 30,31 2 *", "59 23 31 2,11 0-6"} {
		c := mustParse(t, text)
		for _, from := range []int{0, 1, 1136160, 15863040, impl.MaxMinute - 1, impl.MaxMinute} {
			wantNone(t, c, from, impl.MaxMinute)
			wantNone(t, c, from, math.MaxInt64)
		}
	}
}

func TestSpansOfWrongRules(t *testing.T) {
	for _, c := range wrongCrons() {
		if plainCronOk(c) {
			t.Fatalf("%v is right by hand", c)
		}
		for _, from := range []int{0, 1, 1440, impl.MaxMinute - 1, impl.MaxMinute, -1, math.MinInt64, math.MaxInt64} {
			for _, upto := range []int{from, 2000, impl.MaxMinute, math.MaxInt64, math.MinInt64} {
				wantSpans(t, c, from, upto, 20, nil)
				wantSpans(t, c, from, upto, math.MaxInt64, nil)
				wantLatest(t, c, from, upto, impl.Span{}, false)
			}
		}
	}
}

func TestSpansFromNoMinute(t *testing.T) {
	d := draw(5011)
	for _, c := range append(dayRules(t), drawnCron(&d), drawnCron(&d)) {
		for _, from := range wrongTimes() {
			for _, upto := range append(wrongTimes(), 0, 1, 60, 1440, 1000000, impl.MaxMinute-1, impl.MaxMinute) {
				wantNone(t, c, from, upto)
			}
		}
	}
}

// every function answers at every argument, with each other
func TestSpansAtStrangeNumbers(t *testing.T) {
	days := plainDays()
	numbers := append(wrongTimes(), 0, 1, 1439, 1440, 388*1440, 389*1440, 1136160, 1136161, impl.MaxMinute-200, impl.MaxMinute-1, impl.MaxMinute)
	for _, c := range []impl.Cron{
		{}, mustParse(t, "* * * * *"), mustParse(t, "0 0 31 12 *"), mustParse(t, "0 0 30 2 *"), mustParse(t, "59 23 31 * 4"), mustParse(t, "0,1 0 29 2 *"),
		cronWith(0, []int{math.MinInt64}), cronWith(1, []int{math.MaxInt64}), cronWith(2, []int{0, 1}), cronWith(4, []int{6, 7}),
	} {
		for _, from := range numbers {
			times := plainTimes(days, c, from, 201)
			for _, upto := range numbers {
				all := plainSpans(times, upto)
				wantAll(t, c, from, upto, all)
				for _, most := range edgeMosts() {
					wantSpans(t, c, from, upto, most, firstOf(all, min(most, 20)))
				}
			}
		}
	}
}

func TestKnownLacking(t *testing.T) {
	a, b, c := span(60, 120), span(120, 180), span(180, 240)
	all := []impl.Span{a, b, c}
	for _, known := range []struct {
		list []impl.Span
		have []int
		want []impl.Span
	}{
		{nil, nil, nil},
		{[]impl.Span{}, []int{}, nil},
		{nil, []int{60}, nil},
		{nil, []int{0}, nil},
		{all, nil, all},
		{all, []int{}, all},
		{all, []int{60}, []impl.Span{b, c}},
		{all, []int{120}, []impl.Span{a, c}},
		{all, []int{180}, []impl.Span{a, b}},
		{all, []int{60, 180}, []impl.Span{b}},
		{all, []int{180, 60}, []impl.Span{b}},
		{all, []int{180, 120, 60}, nil},
		// a To alone, and numbers that are none of both
		{all, []int{240}, all},
		{[]impl.Span{a}, []int{120}, []impl.Span{a}},
		{all, []int{0, -60, 61, 59, 90, math.MinInt64, math.MaxInt64, 1<<32 + 60}, all},
		{all, []int{0, 1, 2}, all},
		// a number twice
		{all, []int{60, 60}, []impl.Span{b, c}},
		{all, []int{60, 180, 60, 180}, []impl.Span{b}},
		// a span twice, and two spans with one From or one To
		{[]impl.Span{a, a}, nil, []impl.Span{a, a}},
		{[]impl.Span{a, a}, []int{60}, nil},
		{[]impl.Span{a, b, a}, []int{120}, []impl.Span{a, a}},
		{[]impl.Span{a, b, a}, []int{60}, []impl.Span{b}},
		{spansOf(60, 1, 60, 2, 61, 2), []int{60}, spansOf(61, 2)},
		{spansOf(60, 1, 60, 2, 61, 2), []int{61, 2}, spansOf(60, 1, 60, 2)},
		// in the list's own order, whatever it is
		{[]impl.Span{c, a, b}, []int{60}, []impl.Span{c, b}},
		{[]impl.Span{c, b, a}, nil, []impl.Span{c, b, a}},
		// spans that no rule has
		{spansOf(0, 0, 0, 5, 5, 0, -1, -2), []int{0}, spansOf(5, 0, -1, -2)},
		{spansOf(0, 0), nil, spansOf(0, 0)},
		{spansOf(0, 0), []int{0}, nil},
		{spansOf(-1, 3, math.MinInt64, 0, math.MaxInt64, 0), []int{math.MinInt64, -1}, spansOf(math.MaxInt64, 0)},
	} {
		wantLacking(t, known.list, known.have, known.want)
	}
}

// promise 11: those that are told and those whose From is had are together just the list, in its order
func lookAtLacking(t *testing.T, list []impl.Span, have []int) {
	t.Helper()
	lacking := impl.Lacking(list, have)
	had := map[int]int{}
	for _, n := range have {
		had[n]++
	}
	rest := lacking
	for _, s := range list {
		if had[s.From] > 0 {
			continue
		}
		if len(rest) == 0 || rest[0] != s {
			t.Fatalf("Lacking(%v, %v) = %v: %v is neither told in its place nor had", list, have, lacking, s)
		}
		rest = rest[1:]
	}
	if len(rest) > 0 {
		t.Fatalf("Lacking(%v, %v) = %v: too many are told", list, have, lacking)
	}
}

func TestLackingAndHad(t *testing.T) {
	numbers := []int{0, 1, 2, 3}
	haves := listsOf(numbers, 3)
	for _, froms := range listsOf(numbers, 4) {
		var list []impl.Span
		for at, from := range froms {
			list = append(list, span(from, from+1+at%2))
		}
		for _, have := range haves {
			lookAtLacking(t, list, have)
		}
	}
	d := draw(6011)
	for range 3000 {
		c := drawnCron(&d)
		from := d.below(impl.MaxMinute + 1)
		list := impl.Spans(c, from, from+d.below(20000), 20)
		var have []int
		for _, s := range list {
			switch d.below(4) {
			case 0:
				have = append(have, s.From)
			case 1:
				have = append(have, s.From+1, s.From-1, s.To)
			}
		}
		lookAtLacking(t, list, have)
		slices.Reverse(have)
		lookAtLacking(t, list, have)
		// what lacks once more is the same, and what is had of it nothing
		lacking := impl.Lacking(list, have)
		wantLacking(t, lacking, have, lacking)
		var rest []int
		for _, s := range lacking {
			rest = append(rest, s.From)
		}
		wantLacking(t, list, append(rest, have...), nil)
	}
}

func TestLackingOfLongLists(t *testing.T) {
	var list, even []impl.Span
	var odd []int
	for n := range 5000 {
		list = append(list, span(n, n+1))
		if n%2 == 0 {
			even = append(even, span(n, n+1))
		} else {
			odd = append(odd, n)
		}
	}
	wantLacking(t, list, odd, even)
	wantLacking(t, list, upTo(0, 4999), nil)
	wantLacking(t, list, upTo(5000, 9999), list)
	wantLacking(t, list, slices.Repeat([]int{7}, 5000), append(slices.Clone(list[:7]), list[8:]...))
}

// a list with spare room behind it, and whether it and that room are as they were
func roomySpans(list []impl.Span) ([]impl.Span, func() bool) {
	long := append(make([]impl.Span, 0, len(list)+20), list...)
	room := long[:cap(long)]
	for at := len(long); at < len(room); at++ {
		room[at] = span(-at, at)
	}
	before := slices.Clone(room)
	return long, func() bool { return slices.Equal(room, before) }
}

func scribbleSpans(list []impl.Span) {
	all := list[:cap(list)]
	for at := range all {
		all[at] = span(-77, -78)
	}
}

func TestSpansAreNotWrittenInto(t *testing.T) {
	given := append(dayRules(t), impl.Cron{}, cronWith(0, []int{3, 1}), cronWith(1, []int{3, 3}), cronWith(2, []int{0}), cronWith(3, []int{1, 13}), cronWith(4, nil))
	for _, from := range given {
		c, untouched := roomyCron(from)
		list := impl.Spans(c, 700, 900000, 20)
		latest, there := impl.Latest(c, 700, 900000)
		if !untouched() {
			t.Fatalf("something is written into %v", from)
		}
		// nothing of a list is kept: when the rule's lists are written over, what was answered stays, and that rule is a wrong one
		kept := slices.Clone(list)
		for _, numbers := range cronLists(c) {
			scribbleConf(numbers)
		}
		if !slices.Equal(list, kept) {
			t.Fatalf("the spans of %v have changed", from)
		}
		wantNone(t, c, 700, 900000)
		wantSpans(t, from, 700, 900000, 20, kept)
		wantLatest(t, from, 700, 900000, latest, there)
	}
}

func TestSpansAreNewMemory(t *testing.T) {
	for _, text := range []string{"* * * * *", "0 * * * *", "0 0 1 1 *", "0 0 29 2 *"} {
		c := mustParse(t, text)
		for _, most := range []int{-1, 0, 1, 5, 20, 21} {
			first := impl.Spans(c, 0, impl.MaxMinute, most)
			want := slices.Clone(first)
			second := impl.Spans(c, 0, impl.MaxMinute, most)
			latest, there := impl.Latest(c, 0, impl.MaxMinute)
			scribbleSpans(first)
			if !slices.Equal(second, want) {
				t.Fatalf("two answers of Spans(%s) share memory", text)
			}
			wantSpans(t, c, 0, impl.MaxMinute, most, want)
			wantLatest(t, c, 0, impl.MaxMinute, latest, there)
		}
	}
}

func TestLackingIsNewMemory(t *testing.T) {
	lists := [][]impl.Span{nil, spansOf(1, 2), spansOf(1, 2, 2, 3), spansOf(1, 2, 2, 3, 3, 4), spansOf(3, 4, 1, 2, 3, 4), spansBetween(upTo(0, 40)...)}
	for _, fromList := range lists {
		for _, fromHave := range [][]int{nil, {1}, {2}, {3}, {1, 2, 3}, {3, 1, 3}, {99}, upTo(5, 50)} {
			list, listUntouched := roomySpans(fromList)
			have, haveUntouched := roomyNumbers(fromHave)
			first := impl.Lacking(list, have)
			second := impl.Lacking(list, have)
			want := slices.Clone(first)
			lookAtLacking(t, fromList, fromHave)
			if !listUntouched() || !haveUntouched() {
				t.Fatalf("Lacking(%v, %v) writes into an argument", fromList, fromHave)
			}
			scribbleSpans(first)
			if !listUntouched() || !haveUntouched() {
				t.Fatalf("the answer of Lacking(%v, %v) shares memory with an argument", fromList, fromHave)
			}
			if !slices.Equal(second, want) {
				t.Fatalf("two answers of Lacking(%v, %v) share memory", fromList, fromHave)
			}
			// nothing of an argument is kept
			scribbleSpans(list)
			scribbleConf(have)
			if !slices.Equal(second, want) {
				t.Fatalf("Lacking(%v, %v) keeps an argument", fromList, fromHave)
			}
			wantLacking(t, fromList, fromHave, want)
		}
	}
}
