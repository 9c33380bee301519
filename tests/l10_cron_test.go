package tests

import (
	"fmt"
	"math"
	"regexp"
	"slices"
	"strconv"
	"strings"
	"testing"

	"loop.example/g00188/impl"
)

// the numbers of each field, in the order of a rule
func fieldNumbers() [5][]int {
	return [5][]int{upTo(0, 59), upTo(0, 23), upTo(1, 31), upTo(1, 12), upTo(0, 6)}
}

func upTo(first, last int) []int {
	list := []int{}
	for n := first; n <= last; n++ {
		list = append(list, n)
	}
	return list
}

func cron(lists [5][]int) impl.Cron {
	return impl.Cron{Mins: lists[0], Hours: lists[1], Days: lists[2], Months: lists[3], Weeks: lists[4]}
}

func cronLists(c impl.Cron) [5][]int { return [5][]int{c.Mins, c.Hours, c.Days, c.Months, c.Weeks} }

// the rule with all numbers, but in the place of a field this list
func cronWith(place int, list []int) impl.Cron {
	lists := fieldNumbers()
	lists[place] = list
	return cron(lists)
}

func sameCron(a, b impl.Cron) bool {
	theirs := cronLists(b)
	for i, list := range cronLists(a) {
		if !slices.Equal(list, theirs[i]) {
			return false
		}
	}
	return true
}

func copyCron(c impl.Cron) impl.Cron {
	lists := cronLists(c)
	for i := range lists {
		lists[i] = slices.Clone(lists[i])
	}
	return cron(lists)
}

func isZeroCron(c impl.Cron) bool { return sameCron(c, impl.Cron{}) }

func plainCronOk(c impl.Cron) bool {
	lists := cronLists(c)
	for i, all := range fieldNumbers() {
		if len(lists[i]) == 0 {
			return false
		}
		for at, n := range lists[i] {
			if !slices.Contains(all, n) || slices.Contains(lists[i][at+1:], n) {
				return false
			}
		}
		if !slices.IsSorted(lists[i]) {
			return false
		}
	}
	return true
}

func plainCronText(c impl.Cron) string {
	var words []string
	lists := cronLists(c)
	for i, all := range fieldNumbers() {
		if slices.Equal(lists[i], all) {
			words = append(words, "*")
			continue
		}
		words = append(words, strings.ReplaceAll(strings.Trim(fmt.Sprint(lists[i]), "[]"), " ", ","))
	}
	return strings.Join(words, " ")
}

var pieceForm = regexp.MustCompile(`^(?:(\*)|\*/(0|[1-9][0-9]*)|(0|[1-9][0-9]*)(?:-(0|[1-9][0-9]*))?)$`)

// whether a piece has a number, as a function of it; nil when the piece is none
func plainPiece(piece string, all []int) func(n int) bool {
	form := pieceForm.FindStringSubmatch(piece)
	if form == nil {
		return nil
	}
	number := func(word string) int {
		n, err := strconv.ParseUint(word, 10, 64)
		if err != nil || n > 1000000000 {
			return -1
		}
		return int(n)
	}
	if form[1] != "" {
		return func(int) bool { return true }
	}
	if form[2] != "" {
		step := number(form[2])
		if step <= 0 {
			return nil
		}
		return func(n int) bool { return slices.Index(all, n)%step == 0 }
	}
	first, last := number(form[3]), number(form[3])
	if form[4] != "" {
		last = number(form[4])
	}
	if !slices.Contains(all, first) || !slices.Contains(all, last) || first > last {
		return nil
	}
	return func(n int) bool { return n >= first && n <= last }
}

func plainField(part string, all []int) ([]int, bool) {
	var has []func(n int) bool
	for _, piece := range strings.Split(part, ",") {
		f := plainPiece(piece, all)
		if f == nil {
			return nil, false
		}
		has = append(has, f)
	}
	var list []int
	for _, n := range all {
		if slices.ContainsFunc(has, func(f func(n int) bool) bool { return f(n) }) {
			list = append(list, n)
		}
	}
	return list, true
}

func plainParse(text string) (impl.Cron, bool) {
	if len(text) > 600 || strings.ContainsFunc(text, func(r rune) bool { return r < 32 || r > 126 }) {
		return impl.Cron{}, false
	}
	parts := strings.FieldsFunc(text, func(r rune) bool { return r == ' ' })
	if len(parts) != 5 {
		return impl.Cron{}, false
	}
	var lists [5][]int
	for i, all := range fieldNumbers() {
		list, ok := plainField(parts[i], all)
		if !ok {
			return impl.Cron{}, false
		}
		lists[i] = list
	}
	return cron(lists), true
}

// whether a right rule fires on a day at all
func plainOnDay(c impl.Cron, d plainDay) bool {
	if !slices.Contains(c.Months, d.month) {
		return false
	}
	day, week := slices.Contains(c.Days, d.day), slices.Contains(c.Weeks, d.weekday)
	switch {
	case len(c.Days) == 31:
		return week
	case len(c.Weeks) == 7:
		return day
	}
	return day || week
}

func plainFires(days []plainDay, c impl.Cron, m int) bool {
	return plainCronOk(c) && m >= 0 && m <= impl.MaxMinute && plainFiresAt(days, c, m)
}

// the same of a right rule and a minute that there is
func plainFiresAt(days []plainDay, c impl.Cron, m int) bool {
	d := days[m/1440]
	time := m - d.minute
	return plainOnDay(c, d) && slices.Contains(c.Hours, time/60) && slices.Contains(c.Mins, time%60)
}

func plainNext(days []plainDay, c impl.Cron, from, behind int) (int, bool) {
	if !plainCronOk(c) || from < 0 || from > impl.MaxMinute || behind < 0 {
		return 0, false
	}
	first := from / 1440
	for at := first; at < len(days) && at-first <= min(behind, 3000); at++ {
		if !plainOnDay(c, days[at]) {
			continue
		}
		for _, hour := range c.Hours {
			for _, minute := range c.Mins {
				if m := days[at].minute + hour*60 + minute; m >= from {
					return m, true
				}
			}
		}
	}
	return 0, false
}

func wantRule(t *testing.T, text string, want impl.Cron, right bool) {
	t.Helper()
	if c, ok := impl.ParseCron(text); !sameCron(c, want) || ok != right {
		t.Fatalf("ParseCron(%.80q) of %d bytes = %v, %v, want %v, %v", text, len(text), c, ok, want, right)
	}
}

func refuseRule(t *testing.T, text string) {
	t.Helper()
	wantRule(t, text, impl.Cron{}, false)
}

// words in all that the chapter asks of them: they are read as by hand, make a right rule, and its text makes the same again
func lookAtWords(t *testing.T, text string) bool {
	t.Helper()
	want, right := plainParse(text)
	wantRule(t, text, want, right)
	if right {
		lookAtRule(t, want)
	}
	return right
}

// promise 10: a right rule comes back from its text, list by list
func lookAtRule(t *testing.T, c impl.Cron) {
	t.Helper()
	if !impl.CronOk(c) {
		t.Fatalf("CronOk(%v) is false", c)
	}
	text, ok := impl.CronText(c)
	if want := plainCronText(c); text != want || !ok {
		t.Fatalf("CronText(%v) = %q, %v, want %q", c, text, ok, want)
	}
	wantRule(t, text, c, true)
}

func wantFires(t *testing.T, c impl.Cron, m int, want bool) {
	t.Helper()
	if got := impl.Fires(c, m); got != want {
		t.Fatalf("Fires(%s, %d) = %v", tellCron(c), m, got)
	}
}

func wantNext(t *testing.T, c impl.Cron, from, days int, want int, there bool) {
	t.Helper()
	if got, ok := impl.NextFire(c, from, days); got != want || ok != there {
		t.Fatalf("NextFire(%s, %d, %d) = %d, %v, want %d, %v", tellCron(c), from, days, got, ok, want, there)
	}
}

func wantCount(t *testing.T, c impl.Cron, from, upto, want int) {
	t.Helper()
	if got := impl.CountFires(c, from, upto); got != want {
		t.Fatalf("CountFires(%s, %d, %d) = %d, want %d", tellCron(c), from, upto, got, want)
	}
}

func tellCron(c impl.Cron) string {
	if plainCronOk(c) {
		return plainCronText(c)
	}
	return fmt.Sprint(c)
}

func mustParse(t *testing.T, text string) impl.Cron {
	t.Helper()
	c, ok := impl.ParseCron(text)
	if want, right := plainParse(text); !ok || !right || !sameCron(c, want) {
		t.Fatalf("ParseCron(%q) = %v, %v", text, c, ok)
	}
	return c
}

func mustMinute(t *testing.T, c impl.Civil) int {
	t.Helper()
	m, ok := impl.MinuteOf(c)
	if !ok {
		t.Fatalf("MinuteOf(%v) is false", c)
	}
	return m
}

func TestKnownRules(t *testing.T) {
	all := fieldNumbers()
	for _, known := range []struct {
		text string
		c    impl.Cron
		told string
	}{
		{"* * * * *", cron(all), "* * * * *"},
		{"*/1 */1 */1 */1 */1", cron(all), "* * * * *"},
		{"0-59 0-23 1-31 1-12 0-6", cron(all), "* * * * *"},
		{"0 0 1 1 0", cron([5][]int{{0}, {0}, {1}, {1}, {0}}), "0 0 1 1 0"},
		{"59 23 31 12 6", cron([5][]int{{59}, {23}, {31}, {12}, {6}}), "59 23 31 12 6"},
		{"*/30 3,1 * * 1-5", cron([5][]int{{0, 30}, {1, 3}, all[2], all[3], {1, 2, 3, 4, 5}}), "0,30 1,3 * * 1,2,3,4,5"},
		{"*/7 */7 */7 */7 */7", cron([5][]int{{0, 7, 14, 21, 28, 35, 42, 49, 56}, {0, 7, 14, 21}, {1, 8, 15, 22, 29}, {1, 8}, {0}}), "0,7,14,21,28,35,42,49,56 0,7,14,21 1,8,15,22,29 1,8 0"},
		{"*/2 */2 */2 */2 */2", cron([5][]int{
			{0, 2, 4, 6, 8, 10, 12, 14, 16, 18, 20, 22, 24, 26, 28, 30, 32, 34, 36, 38, 40, 42, 44, 46, 48, 50, 52, 54, 56, 58},
			{0, 2, 4, 6, 8, 10, 12, 14, 16, 18, 20, 22}, {1, 3, 5, 7, 9, 11, 13, 15, 17, 19, 21, 23, 25, 27, 29, 31}, {1, 3, 5, 7, 9, 11}, {0, 2, 4, 6},
		}), "0,2,4,6,8,10,12,14,16,18,20,22,24,26,28,30,32,34,36,38,40,42,44,46,48,50,52,54,56,58 0,2,4,6,8,10,12,14,16,18,20,22 1,3,5,7,9,11,13,15,17,19,21,23,25,27,29,31 1,3,5,7,9,11 0,2,4,6"},
		{"*/59 */23 */31 */12 */6", cron([5][]int{{0, 59}, {0, 23}, {1}, {1}, {0, 6}}), "0,59 0,23 1 1 0,6"},
		{"*/58 */22 */30 */11 */5", cron([5][]int{{0, 58}, {0, 22}, {1, 31}, {1, 12}, {0, 5}}), "0,58 0,22 1,31 1,12 0,5"},
		{"*/60 */24 */32 */13 */7", cron([5][]int{{0}, {0}, {1}, {1}, {0}}), "0 0 1 1 0"},
		{"*/1000000000 */999999999 */1000 */100 */64", cron([5][]int{{0}, {0}, {1}, {1}, {0}}), "0 0 1 1 0"},
		{"5-5 7-8 9-9,10-11 12-12 0-0", cron([5][]int{{5}, {7, 8}, {9, 10, 11}, {12}, {0}}), "5 7,8 9,10,11 12 0"},
		{"9,3,9,3,5 2,2 31,1 12,11,12 6,0", cron([5][]int{{3, 5, 9}, {2}, {1, 31}, {11, 12}, {0, 6}}), "3,5,9 2 1,31 11,12 0,6"},
		{"10-12,11-14,1 23,*/12 5,*/10,4-6 3,1-2,2-3 *,5", cron([5][]int{{1, 10, 11, 12, 13, 14}, {0, 12, 23}, {1, 4, 5, 6, 11, 21, 31}, {1, 2, 3}, all[4]}), "1,10,11,12,13,14 0,12,23 1,4,5,6,11,21,31 1,2,3 *"},
		{"0,*/20,* *,* 1-15,16-31 1-6,7,8-12 6,5,4,3,2,1,0", cron(all), "* * * * *"},
		{"  0   0 1  1 0  ", cron([5][]int{{0}, {0}, {1}, {1}, {0}}), "0 0 1 1 0"},
	} {
		wantRule(t, known.text, known.c, true)
		if !impl.CronOk(known.c) {
			t.Errorf("CronOk of what %q tells is false", known.text)
		}
		if told, ok := impl.CronText(known.c); told != known.told || !ok {
			t.Errorf("CronText of what %q tells = %q, %v, want %q", known.text, told, ok, known.told)
		}
		wantRule(t, known.told, known.c, true)
		lookAtWords(t, known.text)
	}
}

// in each field: each number alone, each two, all behind and ahead of each, all but each, all, and all at each step
func TestListsComeBack(t *testing.T) {
	for i, all := range fieldNumbers() {
		look := func(list []int) {
			t.Helper()
			lookAtRule(t, cronWith(i, list))
		}
		look(all)
		for at, n := range all {
			look([]int{n})
			look(all[at:])
			look(all[:at+1])
			look(append(slices.Clone(all[:at]), all[at+1:]...))
			for _, other := range all[at+1:] {
				look([]int{n, other})
			}
		}
		for step := 2; step < len(all); step++ {
			var list []int
			for at := 0; at < len(all); at += step {
				list = append(list, all[at])
			}
			look(list)
		}
	}
}

// a list of all but one is told number by number, even where it is the longest text there is
func TestAllButOneIsNoStar(t *testing.T) {
	lists := fieldNumbers()
	for i := range lists {
		lists[i] = lists[i][:len(lists[i])-1]
	}
	text, ok := impl.CronText(cron(lists))
	if strings.Contains(text, "*") || strings.Count(text, ",") != 58+22+29+10+5 || !ok {
		t.Errorf("CronText of lists without their last numbers = %q, %v", text, ok)
	}
	lookAtRule(t, cron(lists))
	lists = fieldNumbers()
	for i := range lists {
		lists[i] = lists[i][1:]
	}
	lookAtRule(t, cron(lists))
	for i, all := range fieldNumbers() {
		for _, without := range []int{0, len(all) / 2, len(all) - 1} {
			c := cronWith(i, append(slices.Clone(all[:without]), all[without+1:]...))
			text, ok := impl.CronText(c)
			if strings.Count(text, "*") != 4 || strings.Count(text, ",") != len(all)-2 || !ok {
				t.Errorf("CronText of field %d without %d = %q, %v", i, all[without], text, ok)
			}
		}
	}
}

// each list that Weeks and Months may be
func TestEachListOfAShortField(t *testing.T) {
	for _, i := range []int{3, 4} {
		all := fieldNumbers()[i]
		for set := 1; set < 1<<len(all); set++ {
			var list []int
			for at, n := range all {
				if set>>at%2 == 1 {
					list = append(list, n)
				}
			}
			lookAtRule(t, cronWith(i, list))
		}
	}
}

func drawnList(d *draw, all []int) []int {
	var list []int
	switch d.below(5) {
	case 0:
		return slices.Clone(all)
	case 1:
		return []int{all[d.below(len(all))]}
	case 2:
		out := d.below(len(all))
		return append(slices.Clone(all[:out]), all[out+1:]...)
	}
	share := 1 + d.below(6)
	for _, n := range all {
		if d.below(share) == 0 {
			list = append(list, n)
		}
	}
	if len(list) == 0 {
		return []int{all[d.below(len(all))]}
	}
	return list
}

func drawnCron(d *draw) impl.Cron {
	var lists [5][]int
	for i, all := range fieldNumbers() {
		lists[i] = drawnList(d, all)
	}
	return cron(lists)
}

func TestDrawnRulesComeBack(t *testing.T) {
	d := draw(10)
	for range 20000 {
		lookAtRule(t, drawnCron(&d))
	}
}

func drawnWord(d *draw, all []int) string {
	first, last := all[0], all[len(all)-1]
	near := func() int { return first + d.below(last-first+1) }
	if d.below(60) == 0 {
		return []string{"", "-1", "01", "*/", "*/0", "**", "1-", "a", "+1", strconv.Itoa(last + 1), strconv.Itoa(first - 1), "1-2-3", "*-1", "1/2", "*/-1"}[d.below(15)]
	}
	switch d.below(6) {
	case 0:
		return "*"
	case 1:
		return "*/" + strconv.Itoa(1+d.below(2*len(all)))
	case 2, 3:
		low, high := near(), near()
		if low > high && d.below(30) != 0 {
			low, high = high, low
		}
		return strconv.Itoa(low) + "-" + strconv.Itoa(high)
	}
	return strconv.Itoa(near())
}

func TestDrawnWords(t *testing.T) {
	d := draw(1010)
	right := 0
	for range 40000 {
		var words []string
		for _, all := range fieldNumbers() {
			var pieces []string
			for range 1 + d.below(5) {
				pieces = append(pieces, drawnWord(&d, all))
			}
			words = append(words, strings.Join(pieces, ","))
		}
		if lookAtWords(t, strings.Join(words, " ")) {
			right++
		}
	}
	if right < 10000 || right > 35000 {
		t.Errorf("%d of 40000 are rules", right)
	}
}

// a text that has a part in each place, among others that are right
func inEachPlace(part string) []string {
	var texts []string
	for i := range 5 {
		for _, others := range [][]string{{"*", "*", "*", "*", "*"}, {"0", "0", "1", "1", "0"}} {
			words := slices.Clone(others)
			words[i] = part
			texts = append(texts, strings.Join(words, " "))
		}
	}
	return texts
}

// each short text over the bytes that pieces are made of, in each place
func TestEachShortPart(t *testing.T) {
	right := 0
	look := func(part string) {
		for i := range 5 {
			words := []string{"*", "*", "*", "*", "*"}
			words[i] = part
			if lookAtWords(t, strings.Join(words, " ")) {
				right++
			}
		}
	}
	var each func(letters, ahead string, most int)
	each = func(letters, ahead string, most int) {
		if ahead != "" {
			look(ahead)
		}
		for at := 0; at < len(letters) && most > 0; at++ {
			each(letters, ahead+letters[at:at+1], most-1)
		}
	}
	each("*/-,0156", "", 4)
	each("*/-,2", "", 5)
	if right < 500 {
		t.Errorf("%d of them are rules", right)
	}
	for b := range 256 {
		s := string([]byte{byte(b)})
		for _, part := range []string{s, "1" + s, s + "1", "1" + s + "2", "*" + s, s + "*", "*" + s + "2", "*/" + s, "*/2" + s, "1-" + s, "1-2" + s, "1," + s} {
			look(part)
		}
	}
}

// each number at the ends of each field, alone, in pairs, and one beyond them
func TestNumbersAtTheEnds(t *testing.T) {
	for i, all := range fieldNumbers() {
		first, last := all[0], all[len(all)-1]
		for _, form := range []string{"%d", "1,%d", "%d,1", "%d,%[1]d", "%d-%[1]d", "*,%d", "%d,*", "*/2,%d"} {
			for _, n := range []int{first, last} {
				words := []string{"*", "*", "*", "*", "*"}
				words[i] = fmt.Sprintf(form, n)
				if !lookAtWords(t, strings.Join(words, " ")) {
					t.Errorf("%q is refused", words)
				}
			}
			for _, n := range []int{first - 1, last + 1, last + 2, 99, 100, 256, 256 + first, 65536 + first, 1<<32 + first, impl.MaxNumber, impl.MaxNumber + 1, -1, math.MaxInt64, math.MinInt64} {
				words := []string{"*", "*", "*", "*", "*"}
				words[i] = fmt.Sprintf(form, n)
				if slices.Contains(all, n) {
					t.Fatalf("%d is in field %d", n, i)
				}
				refuseRule(t, strings.Join(words, " "))
			}
		}
		for _, pair := range []string{
			fmt.Sprintf("%d-%d", first, last+1), fmt.Sprintf("%d-%d", first-1, last), fmt.Sprintf("%d-%d", last, first), fmt.Sprintf("%d-%d", last, last-1),
			fmt.Sprintf("%d-%d", first+1, first), fmt.Sprintf("%d-%d", last+1, last+1), fmt.Sprintf("%d-%d", last+1, last), fmt.Sprintf("%d-%d", first, impl.MaxNumber),
		} {
			words := []string{"*", "*", "*", "*", "*"}
			words[i] = pair
			refuseRule(t, strings.Join(words, " "))
		}
	}
}

func TestSteps(t *testing.T) {
	for step := 1; step <= 130; step++ {
		part := "*/" + strconv.Itoa(step)
		for _, text := range append(inEachPlace(part), inEachPlace(part+",3")...) {
			if !lookAtWords(t, text) {
				t.Errorf("%q is refused", text)
			}
		}
	}
	for _, step := range []string{"256", "257", "1000", "65536", "4294967", "429496729", "999999999", "1000000000"} {
		for _, text := range inEachPlace("*/" + step) {
			if !lookAtWords(t, text) {
				t.Errorf("%q is refused", text)
			}
			words := strings.Fields(text)
			c := mustParse(t, text)
			for i, list := range cronLists(c) {
				if words[i] != "*" && !slices.Equal(list, fieldNumbers()[i][:1]) {
					t.Errorf("field %d of %q = %v", i, text, list)
				}
			}
		}
	}
	for _, step := range []string{"0", "-1", "", "00", "01", "+1", "1000000001", "4294967297", "9223372036854775807", "9223372036854775808", "18446744073709551617", "*", "/2", "2/", "2/2", "1-2", "-", "x", "1.5"} {
		for _, text := range inEachPlace("*/" + step) {
			refuseRule(t, text)
		}
	}
}

func TestWrongPieces(t *testing.T) {
	for _, piece := range []string{
		"*/0", "*/", "*/-1", "*/01", "*/00", "**", "***", "*1", "1*", "*-", "*-*", "*-1", "1-*", "*/*", "*/1/1", "*/1-2", "/1", "/", "*//1", "1/1", "1-2/1", "0-5/2",
		"1-", "-1", "-", "--", "1--2", "1-2-3", "1-2-", "-1-2", "5-4", "3-2", "2-1", "01", "00", "007", "1-02", "01-2", "1-01", "+1", "-0", "1.0", "1e0", "0x1", "0b1", "1_0", "a", "x1", "1x", "mon", "sun", "L", "?", "#", "1#2", "1L", "1W", "@daily",
		"1;2", "1:2", "1.2", "1/", "60", "99", "100", "1000000000", "1000000001", "9999999999", "10000000000", "4294967297", "18446744073709551617", "340282366920938463463374607431768211457",
		"９", "\x001", "1\x00", "1\x7f", "1\t", "1\n",
	} {
		for _, part := range []string{piece, piece + ",1", "1," + piece, "1," + piece + ",2", "*," + piece, piece + ",*"} {
			for _, text := range inEachPlace(part) {
				refuseRule(t, text)
			}
		}
	}
	for _, part := range []string{",", ",,", "1,", ",1", "1,,2", "*,", ",*", "1,2,", ",1,2", "*/2,", ",*/2", "1-2,", ",1-2", ",-", "-,"} {
		for _, text := range inEachPlace(part) {
			refuseRule(t, text)
		}
	}
}

func TestParseCronParts(t *testing.T) {
	for _, text := range []string{
		"", " ", "     ", "*", "* *", "* * *", "* * * *", "* * * * * *", "* * * * * * *", "* * * * * * * * * *", "* * * * * * * * * * *",
		"0 0 1 1", "0 0 1 1 0 0", "0 0 1 1 0 *", "0 0 1 1 0 #", "0 0 1 1 0 ,", "* * * * 1 , 2", "* * * * 1, 2", "* * * * 1 ,2", "1 - 2 * * * *", "* / 2 * * * *",
		"*****", "*,*,*,*,*", "*\t*\t*\t*\t*", "* * * *\t*", "* * * * *\n", "\n* * * * *", "* * * * *\x00", "* * * * *\x7f", "* * * * \xff", "*\u00a0*\u00a0*\u00a0*\u00a0*", "* * * * *\r", "\x1f* * * * *",
	} {
		refuseRule(t, text)
		if lookAtWords(t, text) {
			t.Errorf("%q is a rule by hand", text)
		}
	}
	for _, text := range []string{"* * * * *", " * * * * *", "* * * * * ", "   *  *   *    *     *      "} {
		if !lookAtWords(t, text) {
			t.Errorf("%q is refused", text)
		}
	}
}

// a text of MaxWords bytes is taken, of one more it is not
func TestParseCronLength(t *testing.T) {
	blanks := strings.Repeat(" ", impl.MaxWords)
	for _, rule := range []string{"* * * * *", "0 0 1 1 0", "*/30 3,1 * * 1-5"} {
		room := impl.MaxWords - len(rule)
		for ahead := range room + 1 {
			if !lookAtWords(t, blanks[:ahead]+rule+blanks[:room-ahead]) {
				t.Fatalf("%q with %d blanks ahead is refused", rule, ahead)
			}
			refuseRule(t, blanks[:ahead]+rule+blanks[:room-ahead+1])
		}
	}
	for i := range 5 {
		words := []string{"1", "1", "1", "1", "1"}
		words[i] = strings.Repeat("1,", 295) + "2"
		exact := strings.Join(words, " ") + " "
		if len(exact) != impl.MaxWords {
			t.Fatalf("%d bytes", len(exact))
		}
		lists := [5][]int{{1}, {1}, {1}, {1}, {1}}
		lists[i] = []int{1, 2}
		wantRule(t, exact, cron(lists), true)
		refuseRule(t, exact+" ")
		refuseRule(t, " "+exact)
		words[i] = strings.Repeat("1,", 300) + "2"
		refuseRule(t, strings.Join(words, " "))
	}
	refuseRule(t, strings.Repeat("* ", 100000))
	refuseRule(t, strings.Repeat("*,", 100000)+"* * * * *")
}

// lists that no field takes, for the field with these numbers
func wrongLists(all []int) [][]int {
	first, last := all[0], all[len(all)-1]
	lists := [][]int{
		nil, {},
		{first - 1}, {last + 1}, {first - 1, first}, {last, last + 1}, {first, last + 1}, {first - 1, last}, {last + 1, first}, {first, first - 1}, {last + 1, last},
		append([]int{first - 1}, all...), append(slices.Clone(all), last+1), append(slices.Clone(all), first), append(slices.Clone(all), last), append([]int{last}, all...), append([]int{first}, all...),
		{first, first}, {last, last}, {first + 1, first + 1}, {first, first, last}, {first, last, last}, {first, first + 1, first + 1}, {first, last, first},
		{last, first}, {first + 1, first}, {last, last - 1}, {first, first + 2, first + 1}, {first + 1, first, first + 2}, {first + 2, first + 1, first},
		{math.MaxInt64}, {math.MinInt64}, {math.MinInt64, first}, {first, math.MaxInt64}, {first, math.MinInt64}, {math.MaxInt64, first}, {math.MinInt64, math.MaxInt64}, {math.MinInt64, first, math.MaxInt64}, {math.MaxInt64 - 1}, {math.MinInt64 + 1},
		{256 + first}, {first, 256 + first + 1}, {1<<16 + first}, {1<<32 + first}, {-1<<32 + first}, {first, 1<<32 + first + 1}, {1<<62 + first}, {math.MinInt64 + last},
		{-first - 1}, {-last}, {100}, {1000}, {60, 61}, {99, 100},
		upTo(first-1, last+1), upTo(0, 100000), upTo(-100000, last), make([]int, 60), slices.Repeat([]int{first}, 1000),
	}
	falling := slices.Clone(all)
	slices.Reverse(falling)
	return append(lists, falling)
}

func wrongCrons() []impl.Cron {
	rules := []impl.Cron{{}, cron([5][]int{{}, {}, {}, {}, {}})}
	for i, all := range fieldNumbers() {
		for _, list := range wrongLists(all) {
			rules = append(rules, cronWith(i, list))
			few := [5][]int{{0}, {0}, {1}, {1}, {4}}
			few[i] = list
			rules = append(rules, cron(few))
		}
		alone := [5][]int{}
		alone[i] = all
		rules = append(rules, cron(alone))
		// a right list, in the place of another field
		for place, others := range fieldNumbers() {
			if place != i && (all[0] < others[0] || all[len(all)-1] > others[len(others)-1]) {
				rules = append(rules, cronWith(place, all))
			}
		}
	}
	return rules
}

func refuseCron(t *testing.T, c impl.Cron) {
	t.Helper()
	if impl.CronOk(c) {
		t.Fatalf("CronOk(%.100v) is true", c)
	}
	if text, ok := impl.CronText(c); text != "" || ok {
		t.Fatalf("CronText(%.100v) = %q, %v, want nothing", c, text, ok)
	}
	for _, m := range []int{0, 1, 59, 60, 1439, 1440, 44640, 525600, impl.MaxMinute - 1, impl.MaxMinute, -1, impl.MaxMinute + 1, math.MinInt64, math.MaxInt64} {
		wantFires(t, c, m, false)
		for _, days := range []int{0, 1, 30, 3000, math.MaxInt64} {
			wantNext(t, c, m, days, 0, false)
		}
	}
	wantCount(t, c, 0, 20000, 0)
	wantCount(t, c, 0, 1, 0)
	wantCount(t, c, impl.MaxMinute-20000, impl.MaxMinute, 0)
}

func TestWrongRules(t *testing.T) {
	for _, c := range wrongCrons() {
		if plainCronOk(c) {
			t.Fatalf("%v is right by hand", c)
		}
		refuseCron(t, c)
	}
}

// every list of at most three numbers around the ends of Weeks, of Months and of Days
func TestSmallLists(t *testing.T) {
	right := 0
	for _, i := range []int{2, 3, 4} {
		all := fieldNumbers()[i]
		last := all[len(all)-1]
		for _, list := range listsOf([]int{-1, 0, 1, 2, last - 1, last, last + 1}, 3) {
			c := cronWith(i, list)
			if plainCronOk(c) {
				right++
				lookAtRule(t, c)
				continue
			}
			if text, ok := impl.CronText(c); impl.CronOk(c) || text != "" || ok {
				t.Fatalf("CronOk(%v) = %v, CronText is %q, %v", c, impl.CronOk(c), text, ok)
			}
		}
	}
	// of Days and Months four of the numbers are in the field, of Weeks five
	if want := 2*(4+6+4) + (5 + 10 + 10); right != want {
		t.Errorf("%d are right, not %d", right, want)
	}
}

// days and weekdays together, on days that are known
func TestDaysAndWeekdays(t *testing.T) {
	saturday15 := civil(2000, 1, 15, 6, 30)
	monday10 := civil(2000, 1, 10, 6, 30)
	monday15 := civil(2000, 5, 15, 6, 30)
	tuesday11 := civil(2000, 1, 11, 6, 30)
	saturday1 := civil(2000, 1, 1, 6, 30)
	monday31 := civil(2000, 1, 31, 6, 30)
	friday31 := civil(2000, 3, 31, 6, 30)
	sunday30 := civil(2000, 1, 30, 6, 30)
	for _, c := range []struct {
		days, weeks string
		fire, not   []impl.Civil
	}{
		// neither has all: one of both is enough
		{"15", "1", []impl.Civil{saturday15, monday10, monday15, monday31}, []impl.Civil{tuesday11, saturday1, friday31, sunday30}},
		{"1-30", "1", []impl.Civil{saturday15, monday10, monday15, tuesday11, saturday1, monday31, sunday30}, []impl.Civil{friday31}},
		{"2-31", "1", []impl.Civil{saturday15, monday10, monday15, tuesday11, monday31, sunday30, friday31}, []impl.Civil{saturday1}},
		{"15", "0-5", []impl.Civil{saturday15, monday10, monday15, tuesday11, monday31, sunday30, friday31}, []impl.Civil{saturday1}},
		{"31", "1-6", []impl.Civil{saturday15, monday10, monday15, tuesday11, saturday1, monday31, friday31}, []impl.Civil{sunday30}},
		{"1-30", "0-4,6", []impl.Civil{saturday15, monday10, monday15, tuesday11, saturday1, monday31, sunday30}, []impl.Civil{friday31}},
		// one of them has all: both are asked
		{"*", "1", []impl.Civil{monday10, monday15, monday31}, []impl.Civil{saturday15, tuesday11, saturday1, friday31, sunday30}},
		{"1-31", "1-1", []impl.Civil{monday10, monday15, monday31}, []impl.Civil{saturday15, tuesday11, saturday1, friday31, sunday30}},
		{"*/1", "0-5", []impl.Civil{monday10, monday15, monday31, tuesday11, friday31, sunday30}, []impl.Civil{saturday15, saturday1}},
		{"15", "*", []impl.Civil{saturday15, monday15}, []impl.Civil{monday10, tuesday11, saturday1, monday31, friday31, sunday30}},
		{"15", "0,1,2,3,4,5,6", []impl.Civil{saturday15, monday15}, []impl.Civil{monday10, tuesday11, saturday1, monday31, friday31, sunday30}},
		{"1-30", "0-6", []impl.Civil{saturday15, monday10, monday15, tuesday11, saturday1, sunday30}, []impl.Civil{monday31, friday31}},
		// both have all
		{"*", "*", []impl.Civil{saturday15, monday10, monday15, tuesday11, saturday1, monday31, friday31, sunday30}, nil},
		{"1-31", "0-6", []impl.Civil{saturday15, monday10, monday15, tuesday11, saturday1, monday31, friday31, sunday30}, nil},
	} {
		for _, time := range []string{"30 6", "* *", "30 *", "* 6"} {
			rule := mustParse(t, time+" "+c.days+" * "+c.weeks)
			for _, day := range c.fire {
				m := mustMinute(t, day)
				wantFires(t, rule, m, true)
				wantNext(t, rule, m, 0, m, true)
				wantCount(t, rule, m, m+1, 1)
			}
			for _, day := range c.not {
				m := mustMinute(t, day)
				wantFires(t, rule, m, false)
				begin := m - m%1440
				wantNext(t, rule, begin, 0, 0, false)
				wantCount(t, rule, begin, begin+1440, 0)
			}
		}
		// the month and the time are asked whatever the day is
		for _, time := range []string{"31 6 " + c.days + " * ", "30 7 " + c.days + " * ", "30 6 " + c.days + " 2,4,6-12 "} {
			rule := mustParse(t, time+c.weeks)
			for _, day := range append(c.fire, c.not...) {
				wantFires(t, rule, mustMinute(t, day), false)
			}
		}
	}
}

// rules whose days are told in each way there is, all of whose times are a few
func dayRules(t *testing.T) []impl.Cron {
	var rules []impl.Cron
	for _, text := range []string{
		"* * * * *", "0 0 * * *", "59 23 31 12 *", "0 0 1 1 *", "0 0 29 2 *", "1 0 29 2 1", "30 12 28 2 *", "15 6 30 * *", "15 6 31 * *", "15 6 31 4,6,9,11 *", "0 0 30,31 2 *",
		"0 0 13 * 5", "0 12 * * 0", "0 12 * * 6", "0 12 * * 1-5", "0 12 1-7 * *", "0 12 1 * 1", "0 12 1-30 * 1", "0 12 31 * 0-5", "0 12 2-31 * 1-6", "0 12 1-31 * 3", "0 12 15 * 0-6",
		"5 4 */2 */3 *", "5 4 */2 * */2", "5 4 1 1 4", "5 4 31 12 4", "5 4 * 2 *", "5 4 29 2 4", "*/20 */8 1,15 3-5 0,6",
	} {
		rules = append(rules, mustParse(t, text))
	}
	return rules
}

func TestFiresOnEachDay(t *testing.T) {
	days := plainDays()
	for _, c := range dayRules(t) {
		hour, minute := c.Hours[0], c.Mins[len(c.Mins)-1]
		fired := 0
		for _, d := range days {
			m := d.minute + hour*60 + minute
			want := plainOnDay(c, d)
			if impl.Fires(c, m) != want {
				t.Fatalf("Fires(%s, %d) on %v is not %v", tellCron(c), m, d, want)
			}
			if want {
				fired++
			}
		}
		never := []string{"15 6 31 4,6,9,11 *", "0 0 30,31 2 *"}
		if (fired == 0) != slices.Contains(never, tellCron(c)) {
			t.Errorf("%s fires on %d days", tellCron(c), fired)
		}
	}
}

func TestFiresAtEachMinuteOfADay(t *testing.T) {
	days := plainDays()
	d := draw(2010)
	for _, c := range dayRules(t) {
		for _, at := range []int{0, 789, 790, d.below(len(days)), len(days) - 1} {
			begin := days[at].minute
			for m := begin; m < begin+1440; m++ {
				wantFires(t, c, m, plainFires(days, c, m))
			}
		}
	}
	for range 40 {
		c := drawnCron(&d)
		begin := d.below(len(days)) * 1440
		for m := begin; m < begin+1440; m++ {
			wantFires(t, c, m, plainFires(days, c, m))
		}
	}
}

func TestDrawnFires(t *testing.T) {
	days := plainDays()
	d := draw(3010)
	fired := 0
	for range 3000 {
		c := drawnCron(&d)
		for range 40 {
			m := d.below(impl.MaxMinute + 1)
			want := plainFires(days, c, m)
			wantFires(t, c, m, want)
			if want {
				fired++
			}
		}
	}
	if fired < 1000 {
		t.Errorf("%d fired", fired)
	}
}

func wrongTimes() []int {
	return []int{-1, -2, -60, -1440, -1441, -impl.MaxMinute, impl.MaxMinute + 1, impl.MaxMinute + 2, impl.MaxMinute + 1441, 1 << 32, -1 << 32, 1 << 62, math.MinInt64, math.MinInt64 + 1, math.MaxInt64 - 1, math.MaxInt64}
}

func TestFiresAtNoMinute(t *testing.T) {
	for _, text := range []string{"* * * * *", "0 0 * * *", "59 23 * * *", "0 0 1 1 *", "59 23 31 12 *", "* * 31 * 4"} {
		c := mustParse(t, text)
		for _, m := range wrongTimes() {
			wantFires(t, c, m, false)
			for _, days := range []int{0, 1, 3000, 3001, math.MaxInt64} {
				wantNext(t, c, m, days, 0, false)
			}
			for _, right := range []int{0, 1, 20000, impl.MaxMinute - 1, impl.MaxMinute} {
				wantCount(t, c, m, right, 0)
				wantCount(t, c, right, m, 0)
			}
			wantCount(t, c, m, m, 0)
			for _, other := range wrongTimes() {
				wantCount(t, c, m, other, 0)
			}
		}
	}
	every := mustParse(t, "* * * * *")
	wantFires(t, every, 0, true)
	wantFires(t, every, impl.MaxMinute, true)
}

func TestKnownNextFires(t *testing.T) {
	const last = impl.MaxMinute
	at := func(year, month, day, hour, min int) int { return mustMinute(t, civil(year, month, day, hour, min)) }
	for _, known := range []struct {
		rule       string
		from, days int
		want       int
		there      bool
	}{
		{"* * * * *", 0, 0, 0, true},
		{"* * * * *", 12345, 0, 12345, true},
		{"* * * * *", last, 0, last, true},
		{"* * * * *", last, 3000, last, true},
		{"*/30 3,1 * * 1-5", 0, 9, 60, true},
		// later on its day, and on the one behind it
		{"30 12 * * *", 0, 0, 750, true},
		{"30 12 * * *", 749, 0, 750, true},
		{"30 12 * * *", 750, 0, 750, true},
		{"30 12 * * *", 751, 0, 0, false},
		{"30 12 * * *", 751, 1, 2190, true},
		{"30 12 * * *", 1439, 1, 2190, true},
		{"30 12 * * *", 1440, 0, 2190, true},
		{"0 0 * * *", 1, 0, 0, false},
		{"0 0 * * *", 1, 1, 1440, true},
		{"59 23 * * *", 0, 0, 1439, true},
		{"59 23 * * *", 1439, 0, 1439, true},
		{"0 * * * *", 61, 0, 120, true},
		{"5,10 8,9 * * *", 8*60 + 11, 0, 9*60 + 5, true},
		{"5,10 8,9 * * *", 9*60 + 10, 0, 9*60 + 10, true},
		{"5,10 8,9 * * *", 9*60 + 11, 1, 1440 + 8*60 + 5, true},
		// the ends of months
		{"0 0 31 * *", at(1970, 1, 31, 0, 1), 58, 0, false},
		{"0 0 31 * *", at(1970, 1, 31, 0, 1), 59, at(1970, 3, 31, 0, 0), true},
		{"0 0 30 * *", at(1970, 1, 31, 0, 0), 57, 0, false},
		{"0 0 30 * *", at(1970, 1, 31, 0, 0), 58, at(1970, 3, 30, 0, 0), true},
		{"0 0 1 * *", at(2024, 2, 1, 0, 1), 28, 0, false},
		{"0 0 1 * *", at(2024, 2, 1, 0, 1), 29, at(2024, 3, 1, 0, 0), true},
		{"0 0 1 * *", at(2023, 2, 1, 0, 1), 28, at(2023, 3, 1, 0, 0), true},
		// the ends of years
		{"59 23 31 12 *", 0, 363, 0, false},
		{"59 23 31 12 *", 0, 364, 525599, true},
		{"59 23 31 12 *", 525600, 364, 1051199, true},
		{"0 0 1 1 *", 1, 364, 0, false},
		{"0 0 1 1 *", 1, 365, 525600, true},
		{"0 0 1 1 *", at(1972, 1, 1, 0, 1), 365, 0, false},
		{"0 0 1 1 *", at(1972, 1, 1, 0, 1), 366, at(1973, 1, 1, 0, 0), true},
		{"0 0 1 1 *", at(1999, 12, 31, 23, 59), 1, 15778080, true},
		// 29 February
		{"0 0 29 2 *", 0, 788, 0, false},
		{"0 0 29 2 *", 0, 789, 1136160, true},
		{"0 0 29 2 *", 0, 3000, 1136160, true},
		{"0 0 29 2 *", 1136160, 0, 1136160, true},
		{"0 0 29 2 *", 1136161, 1460, 0, false},
		{"0 0 29 2 *", 1136161, 1461, 3240000, true},
		{"0 0 29 2 *", at(1996, 3, 1, 0, 0), 3000, 15863040, true},
		{"0 0 29 2 *", at(2000, 2, 29, 0, 1), 1461, at(2004, 2, 29, 0, 0), true},
		{"0 0 29 2 *", at(2092, 2, 29, 0, 1), 1461, at(2096, 2, 29, 0, 0), true},
		{"0 0 29 2 *", at(2096, 2, 29, 0, 1), 3000, 0, false},
		{"0 0 29 2 *", at(2096, 2, 29, 0, 1), math.MaxInt64, 0, false},
		{"* * 28 2 *", at(2024, 2, 28, 23, 59), 0, at(2024, 2, 28, 23, 59), true},
		{"* * 28 2 *", at(2024, 2, 29, 0, 0), 365, at(2025, 2, 28, 0, 0), true},
		{"* * 28 2 *", at(2024, 2, 29, 0, 0), 364, 0, false},
		{"0 0 30 2 *", 0, 3000, 0, false},
		{"* * 31 4,6,9,11 *", 0, 3000, 0, false},
		// near the last minute
		{"59 23 31 12 *", last, 0, last, true},
		{"59 23 31 12 *", last - 1439, 0, last, true},
		{"59 23 31 12 *", last - 1440, 0, 0, false},
		{"59 23 31 12 *", last - 1440, 1, last, true},
		{"58 23 31 12 *", last, 3000, 0, false},
		{"58 23 31 12 *", last - 1, 0, last - 1, true},
		{"0 0 1 1 *", last, 3000, 0, false},
		{"0 0 1 1 *", last - 364*1440, 3000, 0, false},
		{"0 0 * * *", last, 3000, 0, false},
		{"0 0 * * *", last - 1438, 3000, 0, false},
		{"0 0 * * *", last - 1439, 3000, last - 1439, true},
		{"0 0 * * 5", last - 1440, 3000, 0, false},
		{"0 0 * * 4", last - 1440, 1, last - 1439, true},
		// days and weekdays
		{"0 0 13 * 5", 0, 0, 0, false},
		{"0 0 13 * 5", 0, 1, 1440, true},
		{"0 0 13 * 5", 8*1440 + 1, 9, 12 * 1440, true},
		{"0 0 13 * *", 0, 11, 0, false},
		{"0 0 13 * *", 0, 12, 12 * 1440, true},
		{"0 0 * * 3", 0, 5, 0, false},
		{"0 0 * * 3", 0, 6, 6 * 1440, true},
	} {
		wantNext(t, mustParse(t, known.rule), known.from, known.days, known.want, known.there)
	}
}

// days of so many: below 0 none, and above 3000 no other answer than of 3000
func TestNextFireDays(t *testing.T) {
	every, leap, never := mustParse(t, "* * * * *"), mustParse(t, "0 0 29 2 *"), mustParse(t, "0 0 31 2 *")
	for _, days := range []int{-1, -2, -3000, -1 << 32, math.MinInt64, math.MinInt64 + 1} {
		for _, from := range []int{0, 1, 1136160, impl.MaxMinute, -1, math.MaxInt64} {
			wantNext(t, every, from, days, 0, false)
			wantNext(t, leap, from, days, 0, false)
			wantNext(t, never, from, days, 0, false)
		}
	}
	for _, days := range []int{2999, 3000, 3001, 3002, 100000, 1 << 32, math.MaxInt64 - 1, math.MaxInt64} {
		wantNext(t, every, 77, days, 77, true)
		wantNext(t, every, impl.MaxMinute, days, impl.MaxMinute, true)
		wantNext(t, leap, 0, days, 1136160, true)
		wantNext(t, leap, 1136161, days, 3240000, true)
		wantNext(t, never, 0, days, 0, false)
		wantNext(t, never, impl.MaxMinute, days, 0, false)
	}
	wantNext(t, every, 77, 0, 77, true)
	wantNext(t, leap, 0, 0, 0, false)
}

// promise 10, asked of Fires itself: what is told fires, and nothing ahead of it does
func lookAtNext(t *testing.T, c impl.Cron, from, days int) {
	t.Helper()
	m, ok := impl.NextFire(c, from, days)
	upto := min((from/1440+1+min(days, 3000))*1440, impl.MaxMinute+1)
	if ok {
		if m < from || m >= upto || !impl.Fires(c, m) {
			t.Fatalf("NextFire(%s, %d, %d) = %d, which fires: %v", tellCron(c), from, days, m, impl.Fires(c, m))
		}
		upto = m
	} else if m != 0 {
		t.Fatalf("NextFire(%s, %d, %d) = %d, false", tellCron(c), from, days, m)
	}
	for ahead := from; ahead < upto; ahead++ {
		if impl.Fires(c, ahead) {
			t.Fatalf("NextFire(%s, %d, %d) = %d, %v, but %d fires", tellCron(c), from, days, m, ok, ahead)
		}
	}
}

func TestNextFireIsTheLeast(t *testing.T) {
	at := func(year, month, day, hour, min int) int { return mustMinute(t, civil(year, month, day, hour, min)) }
	for _, c := range dayRules(t) {
		for _, from := range []int{
			0, 1, at(1970, 1, 31, 12, 0), at(1971, 12, 31, 23, 59), at(1972, 2, 28, 12, 1), at(1999, 12, 31, 23, 58),
			at(2000, 2, 29, 0, 1), at(2001, 2, 28, 23, 59), at(2099, 12, 30, 12, 1), impl.MaxMinute - 1, impl.MaxMinute,
		} {
			for _, days := range []int{0, 1, 4} {
				lookAtNext(t, c, from, days)
			}
		}
	}
	lookAtNext(t, mustParse(t, "0 12 31 * *"), at(2001, 1, 31, 12, 1), 3000)
	lookAtNext(t, mustParse(t, "7 3 1 * *"), at(2024, 2, 1, 3, 8), 400)
	lookAtNext(t, mustParse(t, "0 0 1 1 *"), at(2098, 12, 31, 23, 0), 30)
	lookAtNext(t, mustParse(t, "0 0 31 12 *"), at(2099, 12, 31, 0, 1), 3000)
	lookAtNext(t, mustParse(t, "0 0 29 2 *"), at(2099, 2, 1, 0, 0), 3000)
	lookAtNext(t, mustParse(t, "0 0 30 2 *"), at(2023, 12, 31, 0, 0), 100)
	lookAtNext(t, mustParse(t, "59 23 29 2 *"), at(1992, 2, 29, 23, 59), 0)
	lookAtNext(t, mustParse(t, "59 23 29 2 *"), at(1992, 3, 1, 0, 0), 1500)
	d := draw(4010)
	for range 300 {
		c := drawnCron(&d)
		lookAtNext(t, c, d.below(impl.MaxMinute+1), d.below(6))
		lookAtNext(t, c, impl.MaxMinute-d.below(5000), d.below(6))
	}
}

// from each day on, against the calendar that is counted by hand
func TestNextFireFromEachDay(t *testing.T) {
	days := plainDays()
	for _, c := range dayRules(t) {
		for at := 0; at < len(days); at += 1 + at%37 {
			from := days[at].minute + at%1440
			for _, behind := range []int{0, 1, 31, 400} {
				want, there := plainNext(days, c, from, behind)
				wantNext(t, c, from, behind, want, there)
			}
		}
	}
}

func TestDrawnNextFires(t *testing.T) {
	days := plainDays()
	d := draw(5010)
	none := 0
	look := func(c impl.Cron, from, behind int) {
		want, there := plainNext(days, c, from, behind)
		wantNext(t, c, from, behind, want, there)
		if !there {
			none++
			return
		}
		// it is told from any minute up to it on, and with just so many days
		needed := want/1440 - from/1440
		wantNext(t, c, from, needed, want, true)
		wantNext(t, c, from+(want-from)/2, behind, want, true)
		wantNext(t, c, want, 0, want, true)
		if needed > 0 {
			wantNext(t, c, from, needed-1, 0, false)
		}
	}
	for range 8000 {
		c := drawnCron(&d)
		look(c, d.below(impl.MaxMinute+1), d.below(10))
		look(c, d.below(impl.MaxMinute+1), d.below(3100))
		look(c, impl.MaxMinute-d.below(600000), d.below(800))
	}
	if none < 1000 {
		t.Errorf("none %d times", none)
	}
}

// going from one fire to the next meets each minute that fires
func TestNextFireAfterNextFire(t *testing.T) {
	for _, text := range []string{"* * * * *", "*/7 */5 * * *", "0 0 13 * 5", "59 23 * * 0,6", "30 6,18 1,15,31 * *"} {
		c := mustParse(t, text)
		for _, from := range []int{0, 15777000, impl.MaxMinute - 60000} {
			upto := from + 60000
			m := from - 1
			for m < upto {
				next, ok := impl.NextFire(c, m+1, 40)
				for ahead := m + 1; ahead < upto && (!ok || ahead < next); ahead++ {
					wantFires(t, c, ahead, false)
				}
				if !ok {
					break
				}
				wantFires(t, c, next, true)
				m = next
				if text == "* * * * *" && m > from+3000 {
					break
				}
			}
		}
	}
}

func TestKnownCounts(t *testing.T) {
	const last = impl.MaxMinute
	for _, known := range []struct {
		rule       string
		from, upto int
		want       int
	}{
		{"* * * * *", 0, 0, 0},
		{"* * * * *", 0, 1, 1},
		{"* * * * *", 5, 6, 1},
		{"* * * * *", 5, 5, 0},
		{"* * * * *", 5, 4, 0},
		{"* * * * *", 20000, 0, 0},
		{"* * * * *", last, 0, 0},
		{"* * * * *", 0, last, 0},
		{"* * * * *", 0, 1440, 1440},
		{"* * * * *", 0, 1441, 1441},
		{"* * * * *", 1439, 1441, 2},
		{"* * * * *", 0, 19999, 19999},
		{"* * * * *", 0, 20000, 20000},
		{"* * * * *", 0, 20001, 0},
		{"* * * * *", 7, 20007, 20000},
		{"* * * * *", 7, 20008, 0},
		{"* * * * *", 1440, 21440, 20000},
		{"* * * * *", 1440, 21441, 0},
		{"* * * * *", last - 20000, last, 20000},
		{"* * * * *", last - 20001, last, 0},
		{"* * * * *", last - 19999, last + 1, 0},
		{"* * * * *", last - 1, last, 1},
		{"* * * * *", last, last, 0},
		{"* * * * *", last, last + 1, 0},
		{"* * * * *", -1, 5, 0},
		{"* * * * *", -1, -1, 0},
		{"59 23 31 12 *", last - 1, last, 0},
		{"58 23 31 12 *", last - 1, last, 1},
		{"*/30 3,1 * * 1-5", 0, 1440, 4},
		{"*/30 3,1 * * 1-5", 0, 7 * 1440, 20},
		{"*/30 3,1 * * 1-5", 60, 211, 4},
		{"*/30 3,1 * * 1-5", 61, 210, 2},
		{"0 0 * * *", 0, 20000, 14},
		{"0 0 * * *", 0, 1440, 1},
		{"0 0 * * *", 0, 1441, 2},
		{"0 0 * * *", 1, 1441, 1},
		{"0 0 * * *", 1, 1440, 0},
		{"59 23 * * *", 0, 1439, 0},
		{"59 23 * * *", 0, 1440, 1},
		{"0 12 * * 0", 0, 20000, 2},
		{"0 0 29 2 *", 1136160 - 10000, 1136160 + 10000, 1},
		{"0 0 29 2 *", 1136160 - 10000, 1136160, 0},
		{"* * 29 2 *", 1136160 - 10000, 1136160 + 10000, 1440},
		{"* * 29 2 *", 15863040 + 1000, 15863040 + 21000, 440},
		{"0 0 30 2 *", 0, 20000, 0},
	} {
		wantCount(t, mustParse(t, known.rule), known.from, known.upto, known.want)
	}
}

// how many fire, counted one by one by Fires; from each minute on as a count of what is behind it
func TestCountsOneByOne(t *testing.T) {
	d := draw(6010)
	rules := dayRules(t)
	for range 12 {
		rules = append(rules, drawnCron(&d))
	}
	for i, c := range rules {
		from := []int{0, 1126100, impl.MaxMinute - 20000, 15855000, d.below(impl.MaxMinute - 20000)}[i%5]
		upto := from + 20000
		behind := make([]int, upto-from+1)
		for m := upto - 1; m >= from; m-- {
			behind[m-from] = behind[m-from+1]
			if impl.Fires(c, m) {
				behind[m-from]++
			}
		}
		count := func(a, b int) int { return behind[a-from] - behind[b-from] }
		wantCount(t, c, from, upto, count(from, upto))
		for range 60 {
			a, b := from+d.below(20001), from+d.below(20001)
			if a > b {
				wantCount(t, c, a, b, 0)
				a, b = b, a
			}
			wantCount(t, c, a, b, count(a, b))
			wantCount(t, c, from, a, count(from, a))
			wantCount(t, c, b, upto, count(b, upto))
		}
	}
}

// what is counted up to a minute between and from it on comes to the whole
func TestCountsComeTogether(t *testing.T) {
	d := draw(7010)
	counted := 0
	for range 2500 {
		c := drawnCron(&d)
		from := d.below(impl.MaxMinute - 20000 + 1)
		upto := from + d.below(20001)
		between := from + d.below(upto-from+1)
		whole := impl.CountFires(c, from, upto)
		ahead, behind := impl.CountFires(c, from, between), impl.CountFires(c, between, upto)
		if whole != ahead+behind || ahead < 0 || behind < 0 {
			t.Fatalf("CountFires(%s) from %d over %d to %d = %d, %d, together %d", tellCron(c), from, between, upto, ahead, behind, whole)
		}
		counted += whole
		at := 0
		for m, ok := impl.NextFire(c, from, 15); ok && m < upto && at < 50; m, ok = impl.NextFire(c, m+1, 15) {
			at++
			wantCount(t, c, from, m+1, at)
			wantCount(t, c, from, m, at-1)
		}
		if at < 50 && at != whole {
			t.Fatalf("CountFires(%s, %d, %d) = %d; from one fire to the next there are %d", tellCron(c), from, upto, whole, at)
		}
	}
	if counted < 100000 {
		t.Errorf("%d fired", counted)
	}
}

func roomyCron(c impl.Cron) (impl.Cron, func() bool) {
	lists := cronLists(c)
	var untouched [5]func() bool
	for i := range lists {
		lists[i], untouched[i] = roomyNumbers(lists[i])
	}
	return cron(lists), func() bool {
		for _, look := range untouched {
			if !look() {
				return false
			}
		}
		return true
	}
}

func TestRulesAreNotWrittenInto(t *testing.T) {
	given := append(dayRules(t), impl.Cron{}, cronWith(0, []int{3, 1}), cronWith(1, []int{3, 3}), cronWith(2, []int{0}), cronWith(3, []int{1, 13}), cronWith(4, nil))
	for _, from := range given {
		c, untouched := roomyCron(from)
		right := impl.CronOk(c)
		text, _ := impl.CronText(c)
		fires := impl.Fires(c, 1136160)
		next, there := impl.NextFire(c, 700, 900)
		count := impl.CountFires(c, 700, 20000)
		if !untouched() {
			t.Fatalf("something is written into %v", from)
		}
		// nothing of a list is kept: when the lists are written over, what was answered stays, and another rule is answered by its own
		told := strings.Clone(text)
		for _, list := range cronLists(c) {
			scribbleConf(list)
		}
		if text != told {
			t.Fatalf("the text of %v has changed", from)
		}
		refuseCron(t, c)
		if again, _ := impl.CronText(from); again != text || impl.CronOk(from) != right || impl.Fires(from, 1136160) != fires {
			t.Fatalf("%v is answered in another way again", from)
		}
		wantNext(t, from, 700, 900, next, there)
		wantCount(t, from, 700, 20000, count)
	}
}

func TestParsedRulesAreNewMemory(t *testing.T) {
	for _, text := range []string{"* * * * *", "0 0 1 1 0", "*/30 3,1 * * 1-5", "1,2 1,2 1,2 1,2 1,2", "*/7,* 5-9 */3 1,1 6", "* * * *", "60 * * * *", ""} {
		want, right := plainParse(text)
		first, _ := impl.ParseCron(text)
		second, _ := impl.ParseCron(text)
		for i, list := range cronLists(first) {
			// one list with its spare room is written over: the four others stay
			kept := copyCron(first)
			scribbleConf(list)
			lists, keptLists := cronLists(first), cronLists(kept)
			for other := range lists {
				if other != i && !slices.Equal(lists[other], keptLists[other]) {
					t.Fatalf("fields %d and %d of %q share memory", i, other, text)
				}
			}
		}
		if !sameCron(second, want) {
			t.Fatalf("two answers of ParseCron(%q) share memory", text)
		}
		wantRule(t, text, want, right)
	}
	c := mustParse(t, "1 2 3 4 5")
	text, _ := impl.CronText(c)
	again, _ := impl.CronText(c)
	if text != "1 2 3 4 5" || sharesBytes(text, again) {
		t.Errorf("two answers of CronText share memory: %q, %q", text, again)
	}
	all := mustParse(t, "* * * * *")
	text, _ = impl.CronText(all)
	again, _ = impl.CronText(all)
	if text != "* * * * *" || sharesBytes(text, again) {
		t.Errorf("two answers of CronText share memory: %q, %q", text, again)
	}
}

// every function answers at every argument: numbers at the ends of what an int holds, with each other, of right rules and of wrong ones
func TestCronsAtStrangeNumbers(t *testing.T) {
	days := plainDays()
	numbers := append(wrongTimes(), 0, 1, 1439, 1440, 1136160, 20000, 20001, 3000, 3001, impl.MaxMinute-20001, impl.MaxMinute-20000, impl.MaxMinute-1, impl.MaxMinute)
	rules := []impl.Cron{
		{}, mustParse(t, "* * * * *"), mustParse(t, "0 0 31 12 *"), mustParse(t, "0 0 30 2 *"), mustParse(t, "59 23 31 * 4"),
		cronWith(0, []int{math.MinInt64}), cronWith(1, []int{math.MaxInt64}), cronWith(2, []int{0, 1}), cronWith(4, []int{6, 7}),
	}
	for _, c := range rules {
		right := plainCronOk(c)
		for _, a := range numbers {
			wantFires(t, c, a, plainFires(days, c, a))
			for _, b := range numbers {
				want, there := plainNext(days, c, a, b)
				wantNext(t, c, a, b, want, there)
				count := 0
				if right && min(a, b) >= 0 && max(a, b) <= impl.MaxMinute && b-a <= 20000 {
					for m := a; m < b; m++ {
						if plainFiresAt(days, c, m) {
							count++
						}
					}
				}
				wantCount(t, c, a, b, count)
			}
		}
	}
}

func TestParseCronOfStrangeTexts(t *testing.T) {
	for _, text := range append(edgeTexts(), longText(impl.MaxText+1), allBytes(), strings.Repeat("*/1,", 149)+"* * * * *", strings.Repeat("-", 592)+" * * * *") {
		want, right := plainParse(text)
		wantRule(t, text, want, right)
	}
	d := draw(8010)
	letters := "**//--,,  0123456789"
	for range 200000 {
		text := make([]byte, 5+d.below(16))
		for at := range text {
			text[at] = letters[d.below(len(letters))]
		}
		want, right := plainParse(string(text))
		wantRule(t, string(text), want, right)
	}
}
