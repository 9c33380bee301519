package tests

import (
	"fmt"
	"math"
	"regexp"
	"slices"
	"strconv"
	"strings"
	"testing"

	"loop.example/g00188/impl"
)

func task(name, pool string, retries int, past bool, after ...string) impl.Task {
	return impl.Task{Name: name, Pool: pool, Retries: retries, Past: past, After: after}
}

func dag(name, rule string, from, to int, catchUp bool, tasks ...impl.Task) impl.Dag {
	return impl.Dag{Name: name, Cron: rule, From: from, To: to, CatchUp: catchUp, Tasks: tasks}
}

// a plan in which nothing but the tasks is of interest
func dagOf(tasks ...impl.Task) impl.Dag { return dag("ann", "0 * * * *", 0, 600, true, tasks...) }

func sameTask(a, b impl.Task) bool {
	return a.Name == b.Name && a.Pool == b.Pool && a.Retries == b.Retries && a.Past == b.Past && slices.Equal(a.After, b.After)
}

func sameDag(a, b impl.Dag) bool {
	return a.Name == b.Name && a.Cron == b.Cron && a.From == b.From && a.To == b.To && a.CatchUp == b.CatchUp && slices.EqualFunc(a.Tasks, b.Tasks, sameTask)
}

func copyDag(d impl.Dag) impl.Dag {
	d.Tasks = slices.Clone(d.Tasks)
	for i := range d.Tasks {
		d.Tasks[i].After = slices.Clone(d.Tasks[i].After)
	}
	return d
}

func tellDag(d impl.Dag) string { return fmt.Sprintf("%+v", d) }

const nameText = `[a-z][a-z0-9]{0,7}`

var (
	nameForm   = regexp.MustCompile(`^` + nameText + `$`)
	dagForm    = regexp.MustCompile(`^dag (` + nameText + `)$`)
	cronForm   = regexp.MustCompile(`^cron (.+)$`)
	fromForm   = regexp.MustCompile(`^from (0|[1-9][0-9]{0,9})$`)
	toForm     = regexp.MustCompile(`^to (0|[1-9][0-9]{0,9})$`)
	choiceForm = regexp.MustCompile(`^(catchup|latest)$`)
	taskForm   = regexp.MustCompile(`^task (` + nameText + `) (one|two|wide) ([0-3]) (free|past)(?: (` + nameText + `(?:,` + nameText + `)*))?$`)
)

// whether one goes from a task by After, in at most so many steps, to this name
func goesTo(tasks []impl.Task, from impl.Task, name string, steps int) bool {
	if steps == 0 {
		return false
	}
	for _, t := range tasks {
		if slices.Contains(from.After, t.Name) && (t.Name == name || goesTo(tasks, t, name, steps-1)) {
			return true
		}
	}
	return false
}

func plainDagOk(d impl.Dag) bool {
	c, ok := plainParse(d.Cron)
	if !nameForm.MatchString(d.Name) || !ok || plainCronText(c) != d.Cron {
		return false
	}
	if d.From < 0 || d.To < d.From || d.To > 68374079 || len(d.Tasks) < 1 || len(d.Tasks) > 4 {
		return false
	}
	names := map[string]int{}
	for _, t := range d.Tasks {
		names[t.Name]++
	}
	for _, t := range d.Tasks {
		if !nameForm.MatchString(t.Name) || names[t.Name] != 1 || !slices.Contains([]string{"one", "two", "wide"}, t.Pool) || t.Retries < 0 || t.Retries > 3 {
			return false
		}
		if !slices.IsSorted(t.After) || len(slices.Compact(slices.Clone(t.After))) != len(t.After) {
			return false
		}
		for _, name := range t.After {
			if names[name] != 1 || name == t.Name {
				return false
			}
		}
	}
	for _, t := range d.Tasks {
		if goesTo(d.Tasks, t, t.Name, 4) {
			return false
		}
	}
	return true
}

func plainDagText(d impl.Dag) string {
	text := fmt.Sprintf("dag %s\ncron %s\nfrom %d\nto %d\n%s\n", d.Name, d.Cron, d.From, d.To, map[bool]string{true: "catchup", false: "latest"}[d.CatchUp])
	for _, t := range d.Tasks {
		text += fmt.Sprintf("task %s %s %d %s", t.Name, t.Pool, t.Retries, map[bool]string{true: "past", false: "free"}[t.Past])
		if len(t.After) > 0 {
			text += " " + strings.Join(t.After, ",")
		}
		text += "\n"
	}
	return text
}

// the lines of a text, by hand: a last byte 10 ends the last line and begins none
func plainLines(text string) []string {
	if text == "" {
		return nil
	}
	return strings.Split(strings.TrimSuffix(text, "\n"), "\n")
}

// the parts of a line with one blank between; false when PartsOf refuses it
func plainSqueezed(line string) (string, bool) {
	parts := strings.FieldsFunc(line, func(r rune) bool { return r == ' ' })
	if len(line) > 600 || len(parts) > 10 || strings.ContainsFunc(line, func(r rune) bool { return r < 32 || r > 126 }) {
		return "", false
	}
	return strings.Join(parts, " "), true
}

// what a line that is not passed over makes of a plan, in this place; false when it is not as it must be
func plainTold(d impl.Dag, place int, line string) (impl.Dag, bool) {
	form := []*regexp.Regexp{dagForm, cronForm, fromForm, toForm, choiceForm, taskForm}[min(place, 5)].FindStringSubmatch(line)
	if form == nil {
		return d, false
	}
	number := func() int {
		n, _ := strconv.Atoi(form[1])
		return n
	}
	switch place {
	case 0:
		d.Name = form[1]
		return d, true
	case 1:
		c, ok := plainParse(form[1])
		d.Cron = plainCronText(c)
		return d, ok
	case 2:
		d.From = number()
		return d, d.From <= 68374079
	case 3:
		d.To = number()
		return d, d.To <= 68374079 && d.To >= d.From
	case 4:
		d.CatchUp = form[1] == "catchup"
		return d, true
	}
	t := task(form[1], form[2], int(form[3][0]-'0'), form[4] == "past")
	if form[5] != "" {
		t.After = slices.Sorted(slices.Values(strings.Split(form[5], ",")))
	}
	twice := len(slices.Compact(slices.Clone(t.After))) != len(t.After)
	for _, other := range d.Tasks {
		twice = twice || other.Name == t.Name
	}
	d.Tasks = append(d.Tasks, t)
	return d, !twice && len(d.Tasks) <= 4
}

func plainParseDag(text string) (impl.Dag, int) {
	if len(text) > 800 {
		return impl.Dag{}, -1
	}
	d, place := impl.Dag{}, 0
	lines := plainLines(text)
	for at, line := range lines {
		squeezed, ok := plainSqueezed(line)
		if ok && (squeezed == "" || squeezed[0] == '#') {
			continue
		}
		if ok {
			d, ok = plainTold(d, place, squeezed)
		}
		if !ok {
			return impl.Dag{}, at + 1
		}
		place++
	}
	if place < 6 || !plainDagOk(d) {
		return impl.Dag{}, len(lines) + 1
	}
	return d, 0
}

func wantDag(t *testing.T, text string, want impl.Dag, line int) {
	t.Helper()
	if got, code := impl.ParseDag(text); !sameDag(got, want) || code != line {
		t.Fatalf("ParseDag(%q) = %s, %d, want %s, %d", text, tellDag(got), code, tellDag(want), line)
	}
}

// the line of the first fault; beside it there is nothing
func wantFault(t *testing.T, text string, line int) {
	t.Helper()
	wantDag(t, text, impl.Dag{}, line)
}

func wantDagOk(t *testing.T, d impl.Dag, want bool) {
	t.Helper()
	if got := impl.DagOk(d); got != want {
		t.Fatalf("DagOk(%s) = %v", tellDag(d), got)
	}
}

func wantDagText(t *testing.T, d impl.Dag, want string, right bool) {
	t.Helper()
	if got, ok := impl.DagText(d); got != want || ok != right {
		t.Fatalf("DagText(%s) = %q, %v, want %q, %v", tellDag(d), got, ok, want, right)
	}
}

// promise 12: a right plan comes back from its text, every field
func acceptDag(t *testing.T, d impl.Dag) {
	t.Helper()
	wantDagOk(t, d, true)
	text := plainDagText(d)
	wantDagText(t, d, text, true)
	wantDag(t, text, d, 0)
	wantDag(t, strings.TrimSuffix(text, "\n"), d, 0)
}

func refuseDag(t *testing.T, d impl.Dag) {
	t.Helper()
	wantDagOk(t, d, false)
	wantDagText(t, d, "", false)
}

// a plan, right or not, against the chapter's words done anew; whether it is right
func lookAtDag(t *testing.T, d impl.Dag) bool {
	t.Helper()
	right := plainDagOk(d)
	if right {
		acceptDag(t, d)
	} else {
		refuseDag(t, d)
	}
	return right
}

// a text, right or not, against the chapter's words done anew; its line
func lookAtDagText(t *testing.T, text string) int {
	t.Helper()
	want, line := plainParseDag(text)
	wantDag(t, text, want, line)
	// what is taken is right, and comes back from its own text
	if got, code := impl.ParseDag(text); code == 0 {
		again, ok := impl.DagText(got)
		if !impl.DagOk(got) || !ok {
			t.Fatalf("ParseDag(%q) takes %s, which is not right", text, tellDag(got))
		}
		wantDag(t, again, got, 0)
	}
	return line
}

func TestDagConstants(t *testing.T) {
	if impl.MaxTasks != 4 || impl.MaxRetries != 3 {
		t.Errorf("MaxTasks = %d, MaxRetries = %d", impl.MaxTasks, impl.MaxRetries)
	}
}

func wantName(t *testing.T, s string, want bool) {
	t.Helper()
	if got := impl.NameOk(s); got != want {
		t.Fatalf("NameOk(%q) = %v", s, got)
	}
}

func TestKnownNames(t *testing.T) {
	for _, s := range []string{"a", "z", "m", "a0", "a9", "z9", "ann", "a1b2c3d4", "aaaaaaaa", "zzzzzzzz", "z0000000", "a9999999", "one", "task", "dag"} {
		wantName(t, s, true)
	}
	for _, s := range []string{
		"", " ", "0", "9", "/", ":", "`", "{", "A", "Z", "@", "[", "_", "-", ".", ",", "#", "\n", "\x00", "\x7f", "\x80", "\xe1", "\xff",
		"a/", "a:", "a`", "a{", "aA", "aZ", "a_", "a-", "a,", "a ", " a", "a b", "a\n", "\na", "a\x00", "a\x80", "a\xff",
		"0a", "9a", "1ann", "Ann", "aNn", "anN", "aaaaaaaaa", "a12345678", "aaaaaaa ", " aaaaaaa", "aaaaaaaaaa",
		"ä", "aä", "äa", "а", "１", "a１", "ａ", "aſ", "aK", "á", "a\u0130", "\uFFFD", "a\uFFFD",
	} {
		wantName(t, s, false)
	}
}

func TestNamesByteByByte(t *testing.T) {
	letters, figures := "abcdefghijklmnopqrstuvwxyz", "0123456789"
	for b := range 256 {
		c := string([]byte{byte(b)})
		first, behind := strings.Contains(letters, c), strings.Contains(letters+figures, c)
		wantName(t, c, first)
		for second := range 256 {
			d := string([]byte{byte(second)})
			wantName(t, c+d, first && strings.Contains(letters+figures, d))
		}
		for long := 1; long <= 10; long++ {
			for at := range long {
				name := strings.Repeat("k", at) + c + strings.Repeat("7", long-at-1)
				if at == 0 {
					wantName(t, name, first && long <= 8)
				} else {
					wantName(t, name, behind && long <= 8)
				}
			}
		}
	}
}

func TestNamesByLength(t *testing.T) {
	for _, of := range []string{"a", "z", "q", "m5"} {
		for long := range 300 {
			name := strings.Repeat(of, 300)[:long]
			wantName(t, name, long >= 1 && long <= 8)
		}
	}
	wantName(t, strings.Repeat("a", 256+1), false)
	wantName(t, strings.Repeat("a", 1<<16+8), false)
	wantName(t, strings.Repeat("a", 1<<20), false)
	// eight runes, but more bytes
	wantName(t, "aaaaaaaä", false)
}

func TestPools(t *testing.T) {
	for _, known := range []struct {
		name string
		size int
	}{
		{"one", 1}, {"two", 2}, {"wide", 4},
		{"", 0}, {" ", 0}, {"One", 0}, {"ONE", 0}, {"onE", 0}, {"Two", 0}, {"TWO", 0}, {"Wide", 0}, {"WIDE", 0}, {"widE", 0},
		{"on", 0}, {"ones", 0}, {"one ", 0}, {" one", 0}, {"tw", 0}, {"twos", 0}, {"two ", 0}, {"wid", 0}, {"wides", 0}, {"wide\n", 0}, {"one,two", 0},
		{"three", 0}, {"four", 0}, {"zero", 0}, {"none", 0}, {"1", 0}, {"2", 0}, {"4", 0}, {"o", 0}, {"t", 0}, {"w", 0}, {"eno", 0}, {"free", 0}, {"past", 0},
		{"one\x00", 0}, {"\xff", 0}, {"ône", 0}, {strings.Repeat("one", 1000), 0},
	} {
		if got := impl.PoolSize(known.name); got != known.size {
			t.Errorf("PoolSize(%q) = %d", known.name, got)
		}
	}
	// each byte in each place
	for name, size := range map[string]int{"one": 1, "two": 2, "wide": 4} {
		for at := range len(name) {
			for b := range 256 {
				other := name[:at] + string([]byte{byte(b)}) + name[at+1:]
				want := 0
				if other == name {
					want = size
				}
				if got := impl.PoolSize(other); got != want {
					t.Errorf("PoolSize(%q) = %d", other, got)
				}
			}
		}
	}
}

func TestKnownDags(t *testing.T) {
	for _, known := range []struct {
		d    impl.Dag
		text string
	}{
		{
			dag("ann", "0 * * * *", 0, 600, true, task("a", "one", 1, false), task("b", "two", 0, true, "a")),
			"dag ann\ncron 0 * * * *\nfrom 0\nto 600\ncatchup\ntask a one 1 free\ntask b two 0 past a\n",
		},
		{
			dag("a", "* * * * *", 0, 0, false, task("a", "one", 0, false)),
			"dag a\ncron * * * * *\nfrom 0\nto 0\nlatest\ntask a one 0 free\n",
		},
		{
			dag("z9999999", "0,30 1,3 * * 1,2,3,4,5", 68374079, 68374079, false, task("z0000000", "wide", 3, true)),
			"dag z9999999\ncron 0,30 1,3 * * 1,2,3,4,5\nfrom 68374079\nto 68374079\nlatest\ntask z0000000 wide 3 past\n",
		},
		{
			dag("four", "59 23 31 12 6", 1, 68374079, true, task("d", "wide", 2, true, "a", "b", "c"), task("c", "two", 1, false, "a", "b"), task("b", "one", 3, true, "a"), task("a", "wide", 0, false)),
			"dag four\ncron 59 23 31 12 6\nfrom 1\nto 68374079\ncatchup\ntask d wide 2 past a,b,c\ntask c two 1 free a,b\ntask b one 3 past a\ntask a wide 0 free\n",
		},
		{
			// names that are words of a plan, too, and that of the plan itself
			dag("task", "1 2 3 4 5", 10, 11, false, task("task", "one", 0, false), task("past", "two", 0, false, "task"), task("free", "wide", 0, true, "past", "task"), task("one", "one", 0, true, "free")),
			"dag task\ncron 1 2 3 4 5\nfrom 10\nto 11\nlatest\ntask task one 0 free\ntask past two 0 free task\ntask free wide 0 past past,task\ntask one one 0 past free\n",
		},
		{
			// a beginning is less, and figures are less than letters
			dag("dag", "0 0 1 1 0", 5, 7, true, task("x", "one", 0, false, "a", "a1", "ab"), task("ab", "one", 0, false), task("a1", "one", 0, false), task("a", "one", 0, false)),
			"dag dag\ncron 0 0 1 1 0\nfrom 5\nto 7\ncatchup\ntask x one 0 free a,a1,ab\ntask ab one 0 free\ntask a1 one 0 free\ntask a one 0 free\n",
		},
	} {
		wantDagOk(t, known.d, true)
		wantDagText(t, known.d, known.text, true)
		wantDag(t, known.text, known.d, 0)
		acceptDag(t, known.d)
		lookAtDagText(t, known.text)
	}
}

func TestDagFields(t *testing.T) {
	const last = 68374079
	with := func(change func(d *impl.Dag)) impl.Dag {
		d := dag("ann", "0 * * * *", 3, 600, true, task("a", "one", 1, false), task("b", "two", 0, true, "a"))
		change(&d)
		return d
	}
	look := func(want bool, change func(d *impl.Dag)) {
		t.Helper()
		d := with(change)
		if plainDagOk(d) != want {
			t.Fatalf("%s by hand: not %v", tellDag(d), want)
		}
		lookAtDag(t, d)
	}
	look(true, func(d *impl.Dag) {})
	for _, known := range []struct {
		from, to int
		right    bool
	}{
		{0, 0, true}, {0, 1, true}, {0, last, true}, {1, 1, true}, {1, 0, false}, {599, 600, true}, {600, 600, true}, {601, 600, false},
		{last - 1, last, true}, {last, last, true}, {last, last - 1, false}, {last, last + 1, false}, {last + 1, last + 1, false}, {last + 1, last, false}, {0, last + 1, false},
		{-1, 0, false}, {-1, 600, false}, {-1, -1, false}, {-2, -1, false}, {0, -1, false}, {0, math.MaxInt64, false}, {math.MinInt64, 600, false}, {math.MinInt64, math.MaxInt64, false},
		{math.MaxInt64, math.MaxInt64, false}, {math.MinInt64, math.MinInt64, false}, {math.MaxInt64, math.MinInt64, false}, {0, math.MinInt64, false}, {3, 1<<32 + 3, false}, {1<<32 + 3, 600, false},
	} {
		look(known.right, func(d *impl.Dag) { d.From, d.To = known.from, known.to })
	}
	for _, retries := range []int{0, 1, 2, 3} {
		look(true, func(d *impl.Dag) { d.Tasks[0].Retries = retries })
		look(true, func(d *impl.Dag) { d.Tasks[1].Retries = retries })
	}
	for _, retries := range []int{-1, 4, 5, 10, 256, 1 << 32, 1<<32 + 1, -1 << 32, math.MinInt64, math.MaxInt64} {
		look(false, func(d *impl.Dag) { d.Tasks[0].Retries = retries })
		look(false, func(d *impl.Dag) { d.Tasks[1].Retries = retries })
	}
	for _, flag := range []bool{true, false} {
		look(true, func(d *impl.Dag) { d.CatchUp = flag })
		look(true, func(d *impl.Dag) { d.Tasks[0].Past, d.Tasks[1].Past = flag, !flag })
	}
	for _, name := range []string{"a", "b", "z", "ann", "a1234567", "zzzzzzzz", "cron"} {
		look(true, func(d *impl.Dag) { d.Name = name })
	}
	for _, name := range []string{"c", "z", "ann", "a1234567", "zzzzzzzz", "cron"} {
		look(true, func(d *impl.Dag) { d.Tasks[1].Name = name })
		look(true, func(d *impl.Dag) { d.Tasks[0].Name, d.Tasks[1].After = name, []string{name} })
	}
	for _, name := range []string{"", "1", "A", "Ann", "a12345678", "aaaaaaaaa", " ", "a ", " a", "a b", "a,b", "a\n", "a\xff", "ä", "#", "#a", "a#", "-"} {
		look(false, func(d *impl.Dag) { d.Name = name })
		look(false, func(d *impl.Dag) { d.Tasks[1].Name = name })
		look(false, func(d *impl.Dag) { d.Tasks[0].Name, d.Tasks[1].After = name, nil })
		look(false, func(d *impl.Dag) { d.Tasks[0].Name, d.Tasks[1].After = name, []string{name} })
		look(false, func(d *impl.Dag) { d.Tasks[1].After = []string{name} })
	}
	for _, pool := range []string{"one", "two", "wide"} {
		look(true, func(d *impl.Dag) { d.Tasks[0].Pool = pool })
		look(true, func(d *impl.Dag) { d.Tasks[1].Pool = pool })
	}
	for _, pool := range []string{"", "One", "TWO", "wid", "wides", "one ", " one", "a", "1", "ten", "one\n"} {
		look(false, func(d *impl.Dag) { d.Tasks[0].Pool = pool })
		look(false, func(d *impl.Dag) { d.Tasks[1].Pool = pool })
	}
}

func TestDagRules(t *testing.T) {
	with := func(rule string) impl.Dag { return dag("ann", rule, 0, 9, false, task("a", "one", 0, false)) }
	for _, rule := range []string{
		"* * * * *", "0 0 1 1 0", "59 23 31 12 6", "0,59 0,23 1,31 1,12 0,6", "0,30 1,3 * * 1,2,3,4,5", "* 0 * 1 *",
		"1,2,3,4,5,6,7,8,9,10,11,12,13,14,15,16,17,18,19,20,21,22,23,24,25,26,27,28,29,30,31,32,33,34,35,36,37,38,39,40,41,42,43,44,45,46,47,48,49,50,51,52,53,54,55,56,57,58,59 * * * *",
	} {
		acceptDag(t, with(rule))
	}
	for _, rule := range []string{
		// none
		"", " ", "*", "* * * *", "* * * * * *", "60 * * * *", "* 24 * * *", "* * 0 * *", "* * 32 * *", "* * * 0 *", "* * * 13 *", "* * * * 7", "-1 * * * *", "a * * * *", "? * * * *", "0,,1 * * * *", ",0 * * * *", "0, * * * *",
		"*\n* * * *", "* * * * *\n", "\xff * * * *", strings.Repeat("0,", 400) + "0 * * * *", strings.Repeat(" ", 2000), strings.Repeat("* ", 100000),
		// a rule, but not its CronText
		"*/1 * * * *", "*/30 * * * *", "0-59 * * * *", "* 0-23 * * *", "* * 1-31 * *", "* * * 1-12 *", "* * * * 0-6", "* * * * 0,1,2,3,4,5,6", "* * * 1,2,3,4,5,6,7,8,9,10,11,12 *",
		"30,0 * * * *", "0,0 * * * *", "0,0,1 * * * *", "1-2 * * * *", "5-5 * * * *", "*,* * * * *", "*,1 * * * *", "* * * * 1-5", "0 0 */2 * *",
		" * * * * *", "* * * * * ", "*  * * * *", "00 * * * *", "0 00 * * *",
	} {
		refuseDag(t, with(rule))
	}
}

// every rule that is its own text, and other ways to write it
func TestDrawnDagRules(t *testing.T) {
	d := draw(12)
	texts := 0
	for range 4000 {
		c := drawnCron(&d)
		acceptDag(t, dag("ann", plainCronText(c), 0, 9, true, task("a", "one", 0, false)))
		var words []string
		for _, all := range fieldNumbers() {
			var pieces []string
			for range 1 + d.below(3) {
				pieces = append(pieces, drawnWord(&d, all))
			}
			words = append(words, strings.Join(pieces, ","))
		}
		text := strings.Join(words, " ")
		other, right := plainParse(text)
		given := dag("ann", text, 0, 9, true, task("a", "one", 0, false))
		lookAtDag(t, given)
		if !right {
			wantFault(t, plainDagText(given), 2)
			continue
		}
		told := given
		told.Cron = plainCronText(other)
		wantDag(t, plainDagText(given), told, 0)
		if told.Cron != text {
			texts++
		}
	}
	if texts < 1000 {
		t.Errorf("%d rules are written in other ways", texts)
	}
}

func TestDagTaskCounts(t *testing.T) {
	names := []string{"a", "b", "c", "d", "e", "f", "g", "h"}
	for count := range 9 {
		var tasks []impl.Task
		for _, name := range names[:count] {
			tasks = append(tasks, task(name, "wide", 0, false))
		}
		if right := lookAtDag(t, dagOf(tasks...)); right != (count >= 1 && count <= 4) {
			t.Errorf("%d tasks: %v", count, right)
		}
	}
	refuseDag(t, dagOf())
	refuseDag(t, dagOf([]impl.Task{}...))
	refuseDag(t, dagOf(slices.Repeat([]impl.Task{task("a", "one", 0, false)}, 1<<16+1)...))
	refuseDag(t, dagOf(make([]impl.Task, 4)...))
}

// names that stand twice, in each two places, beside others
func TestDagNamesTwice(t *testing.T) {
	names := []string{"a", "b", "c", "d"}
	for count := 2; count <= 4; count++ {
		for first := range count {
			for second := first + 1; second < count; second++ {
				var tasks []impl.Task
				for _, name := range names[:count] {
					tasks = append(tasks, task(name, "one", 0, false))
				}
				acceptDag(t, dagOf(tasks...))
				tasks[second].Name = tasks[first].Name
				refuseDag(t, dagOf(tasks...))
				tasks[second].Pool, tasks[second].Retries, tasks[second].Past = "two", 2, true
				refuseDag(t, dagOf(tasks...))
				wantFault(t, plainDagText(dagOf(tasks...)), 5+second+1)
			}
		}
	}
}

func TestDagAfter(t *testing.T) {
	with := func(after ...string) impl.Dag {
		return dagOf(task("d", "one", 0, false, after...), task("a", "one", 0, false), task("b", "one", 0, false), task("c", "one", 0, false))
	}
	for _, after := range [][]string{nil, {}, {"a"}, {"b"}, {"c"}, {"a", "b"}, {"a", "c"}, {"b", "c"}, {"a", "b", "c"}} {
		acceptDag(t, with(after...))
	}
	for _, after := range [][]string{
		{"b", "a"}, {"c", "b"}, {"c", "a"}, {"a", "c", "b"}, {"b", "a", "c"}, {"c", "b", "a"}, {"b", "c", "a"},
		{"a", "a"}, {"b", "b"}, {"a", "b", "b"}, {"a", "a", "b"}, {"a", "b", "c", "c"}, {"a", "b", "a"},
		{"d"}, {"a", "d"}, {"a", "b", "c", "d"}, {"d", "d"},
		{"e"}, {"a", "e"}, {"aa"}, {"ann"}, {"a", "b", "c", "e"}, {""}, {"", "a"}, {"A"}, {"a,b"}, {"a "}, {" a"}, {"a", "b,c"}, {"0"}, {"\xff"}, {"b", "\xff"},
	} {
		refuseDag(t, with(after...))
	}
	// many
	refuseDag(t, with(slices.Repeat([]string{"a"}, 100000)...))
	var many []string
	for n := range 100000 {
		many = append(many, fmt.Sprintf("a%06d", n))
	}
	refuseDag(t, with(many...))
	// a task that comes ahead of the ones that it is After
	acceptDag(t, dagOf(task("b", "one", 0, false, "a"), task("a", "one", 0, false)))
	acceptDag(t, dagOf(task("z", "one", 0, false, "k"), task("k", "one", 0, false, "m"), task("m", "one", 0, false, "a"), task("a", "one", 0, false)))
}

func TestDagRings(t *testing.T) {
	one := func(name string, after ...string) impl.Task { return task(name, "one", 0, false, after...) }
	for _, ring := range [][]impl.Task{
		{one("a", "a")},
		{one("a"), one("b", "b")},
		{one("a", "b"), one("b", "a")},
		{one("a", "b"), one("b", "a"), one("c")},
		{one("a"), one("b", "c"), one("c", "b")},
		{one("a", "c"), one("b"), one("c", "a"), one("d")},
		{one("a", "b"), one("b", "a"), one("c", "d"), one("d", "c")},
		{one("a", "b"), one("b", "a"), one("c", "a"), one("d", "c")},
		{one("a"), one("b", "a", "c"), one("c", "b"), one("d", "c")},
		{one("a", "b"), one("b", "c"), one("c", "a")},
		{one("a", "c"), one("b", "a"), one("c", "b")},
		{one("a", "b"), one("b", "c"), one("c", "a"), one("d")},
		{one("a"), one("b", "c"), one("c", "d"), one("d", "b")},
		{one("a"), one("b", "a", "d"), one("c", "b"), one("d", "c")},
		{one("a", "b"), one("b", "c"), one("c", "a"), one("d", "a")},
		{one("a", "b"), one("b", "c"), one("c", "d"), one("d", "a")},
		{one("a", "d"), one("b", "a"), one("c", "b"), one("d", "c")},
		{one("a", "c"), one("b", "d"), one("c", "b"), one("d", "a")},
		{one("a", "b", "c", "d"), one("b", "c", "d"), one("c", "d"), one("d", "a")},
	} {
		refuseDag(t, dagOf(ring...))
		text := plainDagText(dagOf(ring...))
		wantFault(t, text, 5+len(ring)+1)
		wantFault(t, strings.TrimSuffix(text, "\n"), 5+len(ring)+1)
		wantFault(t, text+"\n# more\n", 5+len(ring)+3)
	}
}

// each choice of After among the tasks themselves; as many of these are without a ring as there are such graphs
func TestAllGraphs(t *testing.T) {
	names := []string{"a", "b", "c", "d"}
	for ahead, want := range []int{1, 3, 25, 543} {
		count, right := ahead+1, 0
		for graph := range 1 << (count * count) {
			var tasks []impl.Task
			for at, name := range names[:count] {
				var after []string
				for other := range count {
					if graph>>(at*count+other)&1 == 1 {
						after = append(after, names[other])
					}
				}
				tasks = append(tasks, task(name, "two", at%4, graph%2 == 0, after...))
			}
			d := dagOf(tasks...)
			if count == 4 {
				// what each is named has no part in it
				d = renamedDag(d, graph)
			}
			if impl.DagOk(d) != plainDagOk(d) {
				t.Fatalf("DagOk(%s) = %v", tellDag(d), impl.DagOk(d))
			}
			if impl.DagOk(d) {
				acceptDag(t, d)
				right++
			} else {
				wantFault(t, plainDagText(d), 5+count+1)
			}
		}
		if right != want {
			t.Errorf("%d plans of %d tasks are right, not %d", right, count, want)
		}
	}
}

// the plan with other names for its tasks, in another order of names
func renamedDag(d impl.Dag, way int) impl.Dag {
	others := [][]string{{"a", "b", "c", "d"}, {"z", "y", "x", "w"}, {"k", "ab", "a1", "a"}, {"b", "ann", "c", "a"}}[way%4]
	called := map[string]string{"a": others[0], "b": others[1], "c": others[2], "d": others[3]}
	d = copyDag(d)
	for i := range d.Tasks {
		d.Tasks[i].Name = called[d.Tasks[i].Name]
		for at, name := range d.Tasks[i].After {
			d.Tasks[i].After[at] = called[name]
		}
		slices.Sort(d.Tasks[i].After)
	}
	return d
}

func drawnName(d *draw) string {
	if d.below(3) == 0 {
		return string(rune('a' + d.below(5)))
	}
	name := []byte{byte('a' + d.below(26))}
	for range d.below(8) {
		name = append(name, "abcdefghijklmnopqrstuvwxyz0123456789"[d.below(36)])
	}
	return string(name)
}

// a plan that is right, drawn: tasks in any order of place, After of those that come ahead in another order
func drawnDag(d *draw) impl.Dag {
	var names []string
	for len(names) < 1+d.below(4) {
		if name := drawnName(d); !slices.Contains(names, name) {
			names = append(names, name)
		}
	}
	var tasks []impl.Task
	for at, name := range names {
		var after []string
		for _, ahead := range names[:at] {
			if d.below(2) == 0 {
				after = append(after, ahead)
			}
		}
		slices.Sort(after)
		tasks = append(tasks, task(name, []string{"one", "two", "wide"}[d.below(3)], d.below(4), d.below(2) == 0, after...))
	}
	for at := range tasks {
		other := d.below(len(tasks))
		tasks[at], tasks[other] = tasks[other], tasks[at]
	}
	to := []int{0, 1, 600, impl.MaxMinute, d.below(impl.MaxMinute + 1)}[d.below(5)]
	from := []int{0, to, d.below(to + 1)}[d.below(3)]
	rule := []string{"* * * * *", "0 * * * *", plainCronText(drawnCron(d))}[d.below(3)]
	return dag(drawnName(d), rule, from, to, d.below(2) == 0, tasks...)
}

func TestDrawnDagsComeBack(t *testing.T) {
	d := draw(1012)
	counts := [5]int{}
	longest := 0
	for range 15000 {
		plan := drawnDag(&d)
		if !plainDagOk(plan) {
			t.Fatalf("%s is drawn, and not right", tellDag(plan))
		}
		acceptDag(t, plan)
		counts[len(plan.Tasks)]++
		longest = max(longest, len(plainDagText(plan)))
	}
	if slices.Min(counts[1:]) < 1000 || longest < 450 {
		t.Errorf("drawn are %v, the longest has %d bytes", counts, longest)
	}
}

// the longest text that a right plan has comes back
func TestLongestDag(t *testing.T) {
	var lists [5][]int
	for i, all := range fieldNumbers() {
		lists[i] = slices.Delete(slices.Clone(all), 1, 2)
	}
	names := []string{"aaaaaaa1", "aaaaaaa2", "aaaaaaa3", "aaaaaaa4"}
	d := dag("zzzzzzzz", plainCronText(cron(lists)), 68374079, 68374079, true)
	for at, name := range names {
		d.Tasks = append(d.Tasks, task(name, "wide", 3, true, names[:at]...))
	}
	if text := plainDagText(d); len(text) != 557 {
		t.Fatalf("the longest text has %d bytes", len(text))
	}
	acceptDag(t, d)
}

// one field of a right plan made wrong, or right in another way
func TestDrawnWrongDags(t *testing.T) {
	d := draw(2012)
	names := []string{"", "a", "b", "A", "1", "a b", "abcdefghi", "a,b", "\n", "#", "ä", "abcdefgh"}
	rights := 0
	for range 20000 {
		plan := drawnDag(&d)
		at := d.below(len(plan.Tasks))
		one := &plan.Tasks[at]
		switch d.below(12) {
		case 0:
			plan.Name = names[d.below(len(names))]
		case 1:
			plan.Cron = []string{"", "* * * *", "*/2 * * * *", "1,0 * * * *", "0 0 0 0 0", "* * * * *\n", " * * * * *"}[d.below(7)]
		case 2:
			plan.From += []int{-1, 1, -plan.From - 1, impl.MaxMinute}[d.below(4)]
		case 3:
			plan.To += []int{-1, 1, -plan.To - 1, impl.MaxMinute}[d.below(4)]
		case 4:
			one.Name = names[d.below(len(names))]
		case 5:
			one.Name = plan.Tasks[d.below(len(plan.Tasks))].Name
		case 6:
			one.Pool = []string{"", "One", "three", "wide "}[d.below(4)]
		case 7:
			one.Retries = []int{-1, 4, 5, math.MinInt64, math.MaxInt64}[d.below(5)]
		case 8:
			one.After = append(one.After, plan.Tasks[d.below(len(plan.Tasks))].Name)
		case 9:
			one.After = append(one.After, plan.Tasks[d.below(len(plan.Tasks))].Name)
			slices.Sort(one.After)
			one.After = slices.Compact(one.After)
		case 10:
			one.After = append(one.After, names[d.below(len(names))])
		case 11:
			slices.Reverse(one.After)
		}
		if lookAtDag(t, plan) {
			rights++
		}
	}
	if rights < 1000 || rights > 12000 {
		t.Errorf("%d of 20000 are right", rights)
	}
}

// the lines of a plan, without their ends
func handLines() []string {
	return []string{"dag ann", "cron 0 * * * *", "from 0", "to 600", "catchup", "task a one 1 free", "task b two 0 past a"}
}

func handDag() impl.Dag {
	return dag("ann", "0 * * * *", 0, 600, true, task("a", "one", 1, false), task("b", "two", 0, true, "a"))
}

func textOf(lines ...string) string {
	text := ""
	for _, line := range lines {
		text += line + "\n"
	}
	return text
}

// the plan by hand with this line in the place of its own, from 1 on
func handWith(number int, line string) string {
	lines := handLines()
	lines[number-1] = line
	return textOf(lines...)
}

// the fault of a text, with and without its last byte 10, and by the chapter's words done anew
func lookAtFault(t *testing.T, text string, line int) {
	t.Helper()
	wantFault(t, text, line)
	lookAtDagText(t, text)
	if cut := strings.TrimSuffix(text, "\n"); cut != text && cut != "" && !strings.HasSuffix(cut, "\n") {
		wantFault(t, cut, line)
		lookAtDagText(t, cut)
	}
}

func lookAtTaken(t *testing.T, text string, want impl.Dag) {
	t.Helper()
	wantDag(t, text, want, 0)
	lookAtDagText(t, text)
	if cut := strings.TrimSuffix(text, "\n"); cut != text {
		wantDag(t, cut, want, 0)
		lookAtDagText(t, cut)
	}
}

func TestHeadLinesMissing(t *testing.T) {
	lines := handLines()
	lookAtTaken(t, textOf(lines...), handDag())
	for at := range 5 {
		lookAtFault(t, textOf(slices.Delete(handLines(), at, at+1)...), at+1)
		// told twice: the second one stands where the next line must
		lookAtFault(t, textOf(slices.Insert(handLines(), at, lines[at])...), at+2)
		// in the place of each other line
		for other := range lines {
			if other == at {
				continue
			}
			swapped := handLines()
			swapped[at], swapped[other] = swapped[other], swapped[at]
			lookAtFault(t, textOf(swapped...), min(at, other)+1)
			lookAtFault(t, handWith(at+1, lines[other]), at+1)
		}
	}
	for count := range 6 {
		lookAtFault(t, textOf(lines[:count]...), count+1)
	}
	lookAtTaken(t, textOf(lines[:6]...), dagOf(task("a", "one", 1, false)))
	lookAtTaken(t, textOf(append(handLines()[:5], lines[6], lines[5])...), dagOf(task("b", "two", 0, true, "a"), task("a", "one", 1, false)))
	lookAtFault(t, textOf(append(handLines()[:5], lines[6])...), 7)
	// catchup and latest are one line, not two
	lookAtFault(t, textOf(slices.Insert(handLines(), 5, "latest")...), 6)
	lookAtFault(t, textOf(slices.Insert(handLines(), 4, "latest")...), 6)
	latest := handDag()
	latest.CatchUp = false
	lookAtTaken(t, handWith(5, "latest"), latest)
	// a head line behind the tasks, or among them
	for _, line := range lines[:5] {
		lookAtFault(t, textOf(append(handLines(), line)...), 8)
		lookAtFault(t, textOf(slices.Insert(handLines(), 6, line)...), 7)
	}
	lookAtFault(t, textOf(append(handLines(), "latest")...), 8)
	// of two faults the first counts
	lookAtFault(t, textOf("dag ann", "cron", "from", "to", "x"), 2)
	lookAtFault(t, textOf("dag Ann", "cron 0 * * * 9"), 1)
	lookAtFault(t, textOf("dag ann", "cron 0 * * * 9"), 2)
	lookAtFault(t, textOf("dag ann", "cron 0 * * * *", "from 7", "to 6", "catchup", "task a one 4 free"), 4)
}

func TestHeadLinesWrong(t *testing.T) {
	for _, line := range []string{
		"dag", "dag ann ann", "dag ann bob", "dag ann 0", "dag Ann", "dag ANN", "dag 1ann", "dag abcdefghi", "dag a-b", "dag a,b", "dag #", "dag ann#", "dag ann # x", "dag ann.", "dag `", "dag {", "dag /", "dag :",
		"Dag ann", "DAG ann", "daag ann", "da ann", "dags ann", "dagann", "dag=ann", "ann", "ann dag", "plan ann", "cron ann", "task ann", "dag\tann", "dag ann\r", "\xffdag ann", "dag ann\x00", "dag \x7f", "dag ä", ";", "//", "-",
	} {
		lookAtFault(t, handWith(1, line), 1)
	}
	for _, line := range []string{
		"cron", "cron 0", "cron 0 * * *", "cron 0 * * * * *", "cron 0 * * * * * * * *", "cron * * * * * * * * * *", "cron 60 * * * *", "cron 0 24 * * *", "cron 0 * 0 * *", "cron 0 * 32 * *", "cron 0 * * 13 *", "cron 0 * * 0 *", "cron 0 * * * 7", "cron 0 * * * 9",
		"cron 0, * * * *", "cron ,0 * * * *", "cron 0-60 * * * *", "cron 2-1 * * * *", "cron */0 * * * *", "cron */ * * * *", "cron 00 * * * *", "cron x * * * *", "cron 0 * * * *x", "cron 0 * * * -1", "cron 0,1, 2 * * *", "cron 0 * * * * # x",
		"Cron 0 * * * *", "CRON 0 * * * *", "0 * * * *", "cron0 * * * *", "crons 0 * * * *", "rule 0 * * * *", "cron\t0 * * * *", "cron 0 * * * *\r", "cron 0 * * * \xff",
	} {
		lookAtFault(t, handWith(2, line), 2)
	}
	numbers := []string{"x", "00", "01", "-1", "-0", "+1", "1.5", "1e3", "0x1", "1,2", "1-2", "*", "1000000001", "9999999999", "99999999999", "99999999999999999999", "18446744073709551616", "4294967296x", "68374080", "68374081", "1000000000", "a", "#1", "1#", "0\r", "0\x00", "0\xff", "٣"}
	for _, number := range numbers {
		lookAtFault(t, handWith(3, "from "+number), 3)
		lookAtFault(t, handWith(4, "to "+number), 4)
	}
	for _, line := range []string{"from", "from 0 0", "from 0 1", "from 0 to 600", "from0", "From 0", "FROM 0", "0", "fromm 0", "fro 0", "from\t0", "from 0 # x", "after 0"} {
		lookAtFault(t, handWith(3, line), 3)
	}
	for _, line := range []string{"to", "to 600 600", "to 600 1", "to600", "To 600", "TO 600", "600", "too 600", "t 600", "to\t600", "to 600 # x", "upto 600"} {
		lookAtFault(t, handWith(4, line), 4)
	}
	for _, line := range []string{"catchup catchup", "catchup latest", "latest catchup", "catchup 1", "latest 0", "catchup # x", "Catchup", "CatchUp", "CATCHUP", "Latest", "LATEST", "catch up", "catchups", "catchu", "late", "latests", "true", "free", "past", "\tcatchup", "catchup\r", "catchup\x00", "lätest"} {
		lookAtFault(t, handWith(5, line), 5)
	}
}

func TestFromAndTo(t *testing.T) {
	with := func(from, to int) string {
		lines := handLines()
		lines[2], lines[3] = fmt.Sprint("from ", from), fmt.Sprint("to ", to)
		return textOf(lines...)
	}
	for _, known := range []struct{ from, to, line int }{
		{0, 0, 0}, {0, 1, 0}, {1, 1, 0}, {1, 0, 4}, {1, 2, 0}, {2, 1, 4}, {9, 10, 0}, {10, 9, 4}, {99, 100, 0}, {100, 99, 4}, {600, 600, 0}, {601, 600, 4}, {599, 600, 0},
		{0, 68374079, 0}, {68374079, 68374079, 0}, {68374078, 68374079, 0}, {68374079, 68374078, 4}, {68374079, 0, 4}, {0, 68374080, 4}, {68374079, 68374080, 4},
		{68374080, 68374080, 3}, {68374080, 68374079, 3}, {68374080, 0, 3}, {1000000000, 1000000000, 3}, {1000000001, 0, 3}, {0, 1000000000, 4}, {-1, 0, 3}, {0, -1, 4}, {-2, -1, 3},
	} {
		want := handDag()
		want.From, want.To = known.from, known.to
		if known.line == 0 {
			lookAtTaken(t, with(known.from, known.to), want)
		} else {
			lookAtFault(t, with(known.from, known.to), known.line)
		}
	}
}

// a rule in any way that ParseCron takes, told as its CronText
func TestRulesWrittenInOtherWays(t *testing.T) {
	for _, known := range []struct{ line, rule string }{
		{"cron 0 * * * *", "0 * * * *"},
		{"cron */1 */1 */1 */1 */1", "* * * * *"},
		{"cron 0-59 0-23 1-31 1-12 0-6", "* * * * *"},
		{"cron */30 3,1 * * 1-5", "0,30 1,3 * * 1,2,3,4,5"},
		{"cron 5,4,3,4,5 * * * *", "3,4,5 * * * *"},
		{"cron 7-7 * * * *", "7 * * * *"},
		{"cron *,1 *,* * * 0,1-6", "* * * * *"},
		{"cron */1000000000 * */31 */12 */7", "0 * 1 1 0"},
		{"  cron   0   *  *    *  *  ", "0 * * * *"},
		{"cron 0,15-17,*/20 22-23 31 12 6", "0,15,16,17,20,40 22,23 31 12 6"},
	} {
		want := handDag()
		want.Cron = known.rule
		lookAtTaken(t, handWith(2, known.line), want)
	}
	// a rule that takes nearly all that a line has, and one that is too long for it
	long := "cron 0" + strings.Repeat(",0", 293) + " * * * *"
	if len(long) != 600 {
		t.Fatalf("%d bytes", len(long))
	}
	lookAtTaken(t, handWith(2, long), handDag())
	lookAtFault(t, handWith(2, long+" "), 2)
	lookAtFault(t, handWith(2, " "+long), 2)
}

func TestTaskLines(t *testing.T) {
	for _, known := range []struct {
		line string
		want impl.Task
	}{
		{"task c one 0 free", task("c", "one", 0, false)},
		{"task c two 1 free", task("c", "two", 1, false)},
		{"task c wide 2 free", task("c", "wide", 2, false)},
		{"task c wide 3 past", task("c", "wide", 3, true)},
		{"task c one 0 past a", task("c", "one", 0, true, "a")},
		{"task c one 0 free b", task("c", "one", 0, false, "b")},
		{"task c one 0 free a,b", task("c", "one", 0, false, "a", "b")},
		{"task c one 0 free b,a", task("c", "one", 0, false, "a", "b")},
		{"   task  c  one  0  free   b,a   ", task("c", "one", 0, false, "a", "b")},
		{"task a0000000 one 0 free", task("a0000000", "one", 0, false)},
		{"task zzzzzzzz one 0 free", task("zzzzzzzz", "one", 0, false)},
		{"task ann one 0 free", task("ann", "one", 0, false)},
		{"task task one 0 free", task("task", "one", 0, false)},
		{"task free two 0 past a", task("free", "two", 0, true, "a")},
	} {
		want := handDag()
		want.Tasks = append(want.Tasks, known.want)
		lookAtTaken(t, textOf(append(handLines(), known.line)...), want)
		// ahead of the others
		want.Tasks = append([]impl.Task{known.want}, want.Tasks[:2]...)
		lookAtTaken(t, textOf(slices.Insert(handLines(), 5, known.line)...), want)
	}
	for _, line := range []string{
		// too few and too many parts
		"task", "task c", "task c one", "task c one 0", "task c one 0 free a b", "task c one 0 free a b c", "task c one 0 free a, b", "task c one 0 free a ,b", "task c one 0 free free a", "task c one 0 free a # x", "task c one 0 free past a",
		"task c one free", "task c 0 free", "task one 0 free", "c one 0 free", "task c one 0 a",
		// the word
		"Task c one 0 free", "TASK c one 0 free", "tasks c one 0 free", "tas c one 0 free", "taskc one 0 free", "job c one 0 free", "x",
		// the name
		"task C one 0 free", "task 1c one 0 free", "task abcdefghi one 0 free", "task c-d one 0 free", "task c,d one 0 free", "task # one 0 free", "task c# one 0 free",
		// the pool
		"task c three 0 free", "task c One 0 free", "task c ONE 0 free", "task c on 0 free", "task c ones 0 free", "task c 1 0 free", "task c free 0 one",
		// Retries
		"task c one 4 free", "task c one 5 free", "task c one 10 free", "task c one 00 free", "task c one 01 free", "task c one -1 free", "task c one +1 free", "task c one x free", "task c one 1.0 free", "task c one 1000000000 free", "task c one 1000000001 free", "task c one 4294967296 free", "task c one 18446744073709551616 free",
		// free or past
		"task c one 0 Free", "task c one 0 FREE", "task c one 0 Past", "task c one 0 fre", "task c one 0 frees", "task c one 0 pas", "task c one 0 pasts", "task c one 0 a", "task c one 0 true", "task c one 0 0", "task c one 0 after a", "task c one 0 free,past",
		// After
		"task c one 0 free ,", "task c one 0 free ,a", "task c one 0 free a,", "task c one 0 free a,,b", "task c one 0 free A", "task c one 0 free a,B", "task c one 0 free 1", "task c one 0 free a;b", "task c one 0 free a.b", "task c one 0 free abcdefghi", "task c one 0 free a,abcdefghi", "task c one 0 free #", "task c one 0 free -", "task c one 0 free *",
		"task c one 0 free a,a", "task c one 0 free b,b", "task c one 0 free a,b,a", "task c one 0 free b,a,b", "task c one 0 free a,a,a", "task c one 0 free c,c", "task c one 0 free x,x", "task c one 0 free a,x,b,x",
		// a name that stands twice
		"task a one 1 free", "task a two 0 past", "task a wide 3 free b", "task b two 0 past a", "task b one 0 free",
		// bytes that PartsOf refuses
		"task\tc one 0 free", "task c one 0 free\r", "task c one 0 free\x00", "task c one 0 free \xff", "task ä one 0 free", "task c one 0 free\x7f",
	} {
		lookAtFault(t, textOf(append(handLines(), line)...), 8)
	}
	// ahead of the task whose name or After it is against
	lookAtFault(t, textOf(slices.Insert(handLines(), 5, "task a wide 0 free")...), 7)
	lookAtFault(t, textOf(slices.Insert(handLines(), 5, "task b wide 0 free")...), 8)
	lookAtFault(t, textOf(slices.Insert(handLines(), 6, "task a wide 0 free", "task c one 9 free")...), 7)
	lookAtFault(t, handWith(6, "task a one 1"), 6)
	lookAtFault(t, handWith(7, "task a one 1 free"), 7)
}

func TestFifthTask(t *testing.T) {
	lines := append(handLines(), "task c one 0 free", "task d one 0 free")
	want := handDag()
	want.Tasks = append(want.Tasks, task("c", "one", 0, false), task("d", "one", 0, false))
	lookAtTaken(t, textOf(lines...), want)
	for _, fifth := range []string{"task e one 0 free", "task a one 0 free", "task e one 9 free", "x", "latest", "task e one 0 free a,b,c,d"} {
		lookAtFault(t, textOf(append(slices.Clone(lines), fifth)...), 10)
		lookAtFault(t, textOf(append(slices.Clone(lines), "", "# x", fifth, "task f one 0 free")...), 12)
	}
	// a fifth task counts ahead of a plan that is not right
	ring := []string{"task a one 0 free b", "task b one 0 free a", "task c one 0 free none", "task d one 0 free d"}
	lookAtFault(t, textOf(append(handLines()[:5], ring...)...), 10)
	lookAtFault(t, textOf(append(append(handLines()[:5], ring...), "task e one 0 free")...), 10)
	lookAtFault(t, textOf(append(append(handLines()[:5], ring...), "", "task e one 0 free", "")...), 11)
	lookAtFault(t, textOf(append(append(handLines()[:5], ring...), "", "")...), 12)
}

// what is seen behind all lines alone: their number and 1
func TestFaultsBehindAllLines(t *testing.T) {
	for _, tasks := range [][]string{
		{},
		{"task a one 0 free b"},
		{"task a one 0 free a"},
		{"task a one 0 free", "task b one 0 free c"},
		{"task a one 0 free", "task b one 0 free a,c"},
		{"task a one 0 free", "task b one 0 free b"},
		{"task a one 0 free", "task b one 0 free a,b"},
		{"task a one 0 free", "task b one 0 free ann"},
		{"task a one 0 free b", "task b one 0 free a"},
		{"task a one 0 free b", "task b one 0 free c", "task c one 0 free a"},
		{"task a one 0 free b", "task b one 0 free c", "task c one 0 free d", "task d one 0 free a"},
		{"task a one 0 free", "task b one 0 free c,a", "task c one 0 free b", "task d one 0 free"},
		{"task a one 0 free", "task b one 0 free", "task c one 0 free", "task d one 0 free e"},
		{"task a one 0 free b,c,d,e"},
		{"task a one 0 free z,y,x,w,v,u,t,s,r,q,p"},
	} {
		lines := append(handLines()[:5], tasks...)
		number := len(lines)
		lookAtFault(t, textOf(lines...), number+1)
		for _, behind := range [][]string{{""}, {"# x"}, {"", ""}, {"   "}, {"#", " ", "# y", ""}, {" # x"}} {
			text := textOf(append(slices.Clone(lines), behind...)...)
			lookAtFault(t, text, number+len(behind)+1)
			// and behind the last byte 10 as well
			if last := behind[len(behind)-1]; last != "" {
				lookAtFault(t, strings.TrimSuffix(text, "\n"), number+len(behind)+1)
			} else {
				lookAtFault(t, strings.TrimSuffix(text, "\n"), number+len(behind))
			}
			ahead := textOf(append(slices.Clone(behind), lines...)...)
			lookAtFault(t, ahead, number+len(behind)+1)
		}
	}
}

// lines that are passed over
func passedOver() []string {
	return []string{
		"", " ", "          ", "#", "##", "# x", "#x", "#dag bob", "#task a one 1 free", "# dag bob", " # x", "   #", "  #x y", "# a b c d e f g h i", "#a b c d e f g h i j", "#,", "#!\"$%&'()*+-./:;<=>?@[]^_`{|}~\\", strings.Repeat(" ", 600), "#" + strings.Repeat("x", 599), strings.Repeat(" ", 599) + "#",
	}
}

// remarks and lines of blanks change nothing of the plan, wherever they stand, but count among the numbers of lines
func TestLinesThatArePassedOver(t *testing.T) {
	for _, line := range passedOver() {
		for at := range len(handLines()) + 1 {
			for count := 1; count <= 3; count++ {
				lines := slices.Insert(handLines(), at, slices.Repeat([]string{line}, count)...)
				text := textOf(lines...)
				if len(text) > 800 {
					wantFault(t, text, -1)
					continue
				}
				lookAtTaken(t, text, handDag())
				// a fault in each line of the plan
				place := 0
				for number := range lines {
					if number >= at && number < at+count {
						continue
					}
					broken := slices.Clone(lines)
					broken[number] = "x"
					lookAtFault(t, textOf(broken...), number+1)
					place++
				}
				if place != 7 {
					t.Fatalf("%d lines", place)
				}
			}
		}
		// in all places at once
		var lines []string
		for _, own := range handLines() {
			lines = append(lines, line, own)
		}
		if text := textOf(append(lines, line)...); len(text) <= 800 {
			lookAtTaken(t, text, handDag())
		}
	}
	// alone
	for _, line := range passedOver() {
		lookAtFault(t, textOf(line), 2)
		if line != "" {
			wantFault(t, line, 2)
		}
		if len(line) < 200 {
			lookAtFault(t, textOf(line, line, line), 4)
		}
	}
}

func TestDrawnLinesThatArePassedOver(t *testing.T) {
	d := draw(3012)
	taken := 0
	short := slices.DeleteFunc(passedOver(), func(line string) bool { return len(line) > 60 })
	for range 5000 {
		plan := drawnDag(&d)
		var lines []string
		for _, line := range plainLines(plainDagText(plan)) {
			for d.below(3) == 0 {
				lines = append(lines, short[d.below(len(short))])
			}
			lines = append(lines, line)
		}
		for d.below(3) == 0 {
			lines = append(lines, short[d.below(len(short))])
		}
		text := textOf(lines...)
		if len(text) > 800 {
			wantFault(t, text, -1)
			continue
		}
		lookAtTaken(t, text, plan)
		taken++
	}
	if taken < 4000 {
		t.Errorf("%d are taken", taken)
	}
}

// a remark begins a line: within one it is a part like any other
func TestRemarksWithinLines(t *testing.T) {
	for number, line := range handLines() {
		for _, behind := range []string{" #", " # x", " #x", "#", "#x"} {
			lookAtFault(t, handWith(number+1, line+behind), number+1)
		}
	}
}

// a line that PartsOf refuses is a fault, also where it would be passed over
func TestLinesThatPartsOfRefuses(t *testing.T) {
	var bytes []string
	for b := range 256 {
		if (b < 32 || b > 126) && b != 10 {
			bytes = append(bytes, string([]byte{byte(b)}))
		}
	}
	for _, b := range append(bytes, "ä", "€", "\u2028", "\ufeff") {
		for at, own := range handLines() {
			for _, line := range []string{b, "#" + b, "# x " + b, b + "#", " " + b, b + " "} {
				lookAtFault(t, textOf(slices.Insert(handLines(), at, line)...), at+1)
			}
			lookAtFault(t, handWith(at+1, own+b), at+1)
			lookAtFault(t, handWith(at+1, b+own), at+1)
			if strings.Contains(own, " ") {
				lookAtFault(t, handWith(at+1, strings.Replace(own, " ", b, 1)), at+1)
			}
		}
		lookAtFault(t, textOf(append(handLines(), b)...), 8)
		lookAtFault(t, textOf(append(handLines(), "#"+b)...), 8)
		wantFault(t, b, 1)
	}
	// too many parts, or too long
	for _, line := range []string{"# a b c d e f g h i j", "# # # # # # # # # # #", strings.Repeat("# ", 11), strings.Repeat(" ", 601), "#" + strings.Repeat("x", 600), "#" + strings.Repeat(" ", 600), "x" + strings.Repeat(" ", 600)} {
		for at := range len(handLines()) + 1 {
			lookAtFault(t, textOf(slices.Insert(handLines(), at, line)...), at+1)
		}
	}
	// line ends of another kind
	lookAtFault(t, strings.ReplaceAll(textOf(handLines()...), "\n", "\r\n"), 1)
	lookAtFault(t, strings.ReplaceAll(textOf(handLines()...), "\n", "\r"), 1)
	lookAtFault(t, strings.ReplaceAll(textOf(handLines()...), "\n", "\x00"), 1)
	lookAtFault(t, "\ufeff"+textOf(handLines()...), 1)
}

func TestBlanksWithinLines(t *testing.T) {
	for number, line := range handLines() {
		for _, other := range []string{" " + line, line + " ", "     " + line + "     ", strings.ReplaceAll(line, " ", "  "), strings.ReplaceAll(line, " ", "       ")} {
			lookAtTaken(t, handWith(number+1, other), handDag())
		}
		lookAtTaken(t, handWith(number+1, line+strings.Repeat(" ", 600-len(line))), handDag())
		lookAtFault(t, handWith(number+1, line+strings.Repeat(" ", 601-len(line))), number+1)
	}
}

// a text of the given length, made longer by lines that are passed over behind it
func paddedTo(text string, length int) string {
	for len(text) < length {
		text += "#" + strings.Repeat("x", min(length-len(text), 100)-1)
		if len(text) < length {
			text += "\n"
		}
	}
	return text
}

func TestDagTextLengths(t *testing.T) {
	own := textOf(handLines()...)
	for length := len(own); length <= 830; length++ {
		text := paddedTo(own, length)
		if len(text) != length {
			t.Fatalf("%d bytes, not %d", len(text), length)
		}
		if length <= 800 {
			wantDag(t, text, handDag(), 0)
		} else {
			wantFault(t, text, -1)
		}
		wantFault(t, "x\n"+text[:length-2], map[bool]int{true: 1, false: -1}[length <= 800])
		lookAtDagText(t, text)
	}
	for _, length := range []int{799, 800, 801} {
		line := func(line int) int {
			if length > 800 {
				return -1
			}
			return line
		}
		wantFault(t, strings.Repeat("\n", length), line(length+1))
		wantFault(t, strings.Repeat(" ", length), line(1))
		wantFault(t, strings.Repeat("x", length), line(1))
		wantFault(t, strings.Repeat("\xff", length), line(1))
		wantFault(t, strings.Repeat("#\n", 500)[:length], line((length+1)/2+1))
		wantFault(t, paddedTo(textOf(handLines()[:5]...), length), line(len(plainLines(paddedTo(textOf(handLines()[:5]...), length)))+1))
		blank := own + strings.Repeat("\n", length-len(own))
		if length <= 800 {
			wantDag(t, blank, handDag(), 0)
		} else {
			wantFault(t, blank, -1)
		}
		// the blanks of a line count, too
		wide := handWith(1, "dag ann"+strings.Repeat(" ", 500))
		wide += strings.Repeat("\n", length-len(wide))
		if length <= 800 {
			wantDag(t, wide, handDag(), 0)
		} else {
			wantFault(t, wide, -1)
		}
		// bytes are counted, not runes
		runes := strings.Repeat("\n", length-800+400) + strings.Repeat("ä", 200)
		if len(runes) != length {
			t.Fatalf("%d bytes", len(runes))
		}
		wantFault(t, runes, line(length-800+401))
	}
	for _, length := range []int{802, 1000, 1056, 20000, 1 << 16, 1<<16 + 800, 1 << 20} {
		wantFault(t, strings.Repeat("\n", length), -1)
		wantFault(t, own+strings.Repeat("\n", length-len(own)), -1)
	}
}

func TestShortDagTexts(t *testing.T) {
	wantFault(t, "", 1)
	wantFault(t, "\n", 2)
	wantFault(t, "\n\n", 3)
	wantFault(t, "\n\n\n", 4)
	wantFault(t, " ", 2)
	wantFault(t, " \n", 2)
	wantFault(t, "\n ", 3)
	wantFault(t, "#", 2)
	wantFault(t, "#\n", 2)
	wantFault(t, "#\n#", 3)
	wantFault(t, "x", 1)
	wantFault(t, "\nx", 2)
	wantFault(t, "dag", 1)
	wantFault(t, "dag ", 1)
	wantFault(t, "dag a", 2)
	wantFault(t, "dag a\n", 2)
	wantFault(t, "dag a\n\n", 3)
	wantFault(t, "\ndag a", 3)
	wantFault(t, "dag a\nx", 2)
	wantFault(t, "dag a\n\nx", 3)
	for a := range 256 {
		lookAtDagText(t, string([]byte{byte(a)}))
		for b := range 256 {
			lookAtDagText(t, string([]byte{byte(a), byte(b)}))
		}
	}
	for _, text := range edgeTexts() {
		lookAtDagText(t, text)
	}
}

// each beginning of a plan's text, and each end
func TestCutDagTexts(t *testing.T) {
	texts := []string{textOf(handLines()...), plainDagText(dag("z9", "1,2 * * 3 *", 68374000, 68374079, false, task("d", "wide", 3, true, "a", "b"), task("b", "two", 2, false, "a"), task("a", "one", 0, false)))}
	for _, text := range texts {
		taken := 0
		for at := range len(text) + 1 {
			if lookAtDagText(t, text[:at]) == 0 {
				taken++
			}
			lookAtDagText(t, text[at:])
			lookAtDagText(t, text[:at]+"\n"+text[at:])
			lookAtDagText(t, text[:at]+" "+text[at:])
			lookAtDagText(t, text[:at]+"#"+text[at:])
			if at < len(text) {
				lookAtDagText(t, text[:at]+text[at+1:])
			}
		}
		if taken < 2 {
			t.Errorf("%d beginnings of %q are taken", taken, text)
		}
	}
}

// one byte of a plan's text turned into each other one
func TestTurnedDagTexts(t *testing.T) {
	text := textOf(handLines()...)
	for at := range len(text) {
		for b := range 256 {
			lookAtDagText(t, text[:at]+string([]byte{byte(b)})+text[at+1:])
		}
	}
}

// a text that is drawn: lines of a right plan, of which some are changed
func drawnDagText(d *draw) string {
	lines := plainLines(plainDagText(drawnDag(d)))
	pieces := []string{"", " ", "#", "# x", "x", "a", "b", "a,b", "b,a", "one", "wide", "free", "past", "0", "3", "4", "task", "dag", "cron", "from", "to", "latest", "catchup", "*", "*/2", "68374079", "68374080", ",", "\xff", "\t", "task a one 0 free", "task b two 1 past a", "latest", "catchup", "from 5", "to 5"}
	for range d.below(4) {
		at := d.below(len(lines))
		words := strings.Split(lines[at], " ")
		word := d.below(len(words))
		piece := pieces[d.below(len(pieces))]
		switch d.below(9) {
		case 0:
			lines = slices.Insert(lines, at, piece)
		case 1:
			if len(lines) > 1 {
				lines = slices.Delete(lines, at, at+1)
			}
		case 2:
			other := d.below(len(lines))
			lines[at], lines[other] = lines[other], lines[at]
		case 3:
			words[word] = piece
			lines[at] = strings.Join(words, " ")
		case 4:
			lines[at] = strings.Join(slices.Insert(words, word, piece), " ")
		case 5:
			lines[at] = strings.Join(slices.Delete(words, word, word+1), " ")
		case 6:
			lines[at] += " " + piece
		case 7:
			lines = slices.Insert(lines, at, lines[d.below(len(lines))])
		case 8:
			lines[at] = strings.Repeat(" ", d.below(3)) + strings.Join(words, strings.Repeat(" ", 1+d.below(3)))
		}
	}
	text := textOf(lines...)
	if d.below(3) == 0 {
		text = strings.TrimSuffix(text, "\n")
	}
	return text
}

func TestDrawnDagTexts(t *testing.T) {
	d := draw(4012)
	counts := map[int]int{}
	for range 40000 {
		counts[lookAtDagText(t, drawnDagText(&d))]++
	}
	for line := range 11 {
		if counts[line] < 20 {
			t.Errorf("the line %d stands %d times", line, counts[line])
		}
	}
}

func TestDagsAtStrangeValues(t *testing.T) {
	texts := append([]string{"", " ", "a", "\n", "* * * * *", "one", "\xff", "a,b"}, strings.Repeat("a", 1<<16), strings.Repeat("* ", 1<<16))
	numbers := []int{math.MinInt64, -1, 0, 1, 3, 4, impl.MaxMinute, impl.MaxMinute + 1, math.MaxInt64}
	d := draw(5012)
	text := func() string { return texts[d.below(len(texts))] }
	number := func() int { return numbers[d.below(len(numbers))] }
	for range 20000 {
		plan := dag(text(), text(), number(), number(), d.below(2) == 0)
		for range d.below(6) {
			one := task(text(), text(), number(), d.below(2) == 0)
			for range d.below(4) {
				one.After = append(one.After, text())
			}
			plan.Tasks = append(plan.Tasks, one)
		}
		lookAtDag(t, plan)
	}
	refuseDag(t, impl.Dag{})
	refuseDag(t, impl.Dag{Tasks: []impl.Task{{}}})
}

// a plan whose lists have spare room behind them, and whether they and that room are as they were
func roomyDag(d impl.Dag) (impl.Dag, func() bool) {
	tasks := append(make([]impl.Task, 0, len(d.Tasks)+6), d.Tasks...)
	room := tasks[:cap(tasks)]
	for at := len(tasks); at < len(room); at++ {
		room[at] = task("room", "behind", -at, true, "x")
	}
	for at := range room {
		after := append(make([]string, 0, len(room[at].After)+6), room[at].After...)
		for spare := len(after); spare < cap(after); spare++ {
			after[:cap(after)][spare] = fmt.Sprint("room", spare)
		}
		room[at].After = after
	}
	before := slices.Clone(room)
	for at := range before {
		before[at].After = slices.Clone(room[at].After[:cap(room[at].After)])
	}
	d.Tasks = tasks
	return d, func() bool {
		return slices.EqualFunc(room, before, func(now, then impl.Task) bool {
			now.After = now.After[:cap(now.After)]
			return sameTask(now, then)
		})
	}
}

func scribbleTexts(list []string) {
	all := list[:cap(list)]
	for at := range all {
		all[at] = "scribble"
	}
}

func scribbleTasks(list []impl.Task) {
	all := list[:cap(list)]
	for at := range all {
		all[at] = task("scribble", "over", -7, true, "x")
	}
}

func scribbleDag(d impl.Dag) {
	for _, t := range d.Tasks {
		scribbleTexts(t.After)
	}
	scribbleTasks(d.Tasks)
}

func TestDagsAreNotWrittenInto(t *testing.T) {
	d := draw(6012)
	plans := []impl.Dag{{}, handDag(), dagOf(), dagOf(task("a", "one", 0, false, "a")), dagOf(task("a", "one", 0, false, "c", "b"), task("b", "one", 0, false), task("c", "one", 0, false)), dagOf(task("b", "one", 0, false), task("a", "one", 0, false, "b"))}
	for range 200 {
		plans = append(plans, drawnDag(&d))
	}
	for _, from := range plans {
		want, right := plainDagText(from), plainDagOk(from)
		if !right {
			want = ""
		}
		plan, untouched := roomyDag(copyDag(from))
		if got := impl.DagOk(plan); got != right || !untouched() {
			t.Fatalf("DagOk of %s is %v, or writes into it", tellDag(from), got)
		}
		text, ok := impl.DagText(plan)
		if text != want || ok != right || !untouched() {
			t.Fatalf("DagText of %s is %q, %v, or writes into it", tellDag(from), text, ok)
		}
		// nothing of it is kept
		scribbleDag(plan)
		if text != want {
			t.Fatalf("the text of %s has changed", tellDag(from))
		}
		wantDagOk(t, plan, false)
		wantDagText(t, from, want, right)
	}
}

func TestParsedDagsAreNewMemory(t *testing.T) {
	d := draw(7012)
	plans := []impl.Dag{handDag(), dagOf(task("d", "one", 0, false, "a", "b", "c"), task("c", "one", 0, false, "a", "b"), task("b", "one", 0, false, "a"), task("a", "one", 0, false))}
	for range 200 {
		plans = append(plans, drawnDag(&d))
	}
	for _, want := range plans {
		text := plainDagText(want)
		first, _ := impl.ParseDag(text)
		second, _ := impl.ParseDag(text)
		told, _ := impl.DagText(first)
		// two lists of one answer: one is written over, the others stay
		for at := range first.Tasks {
			one, _ := impl.ParseDag(text)
			scribbleTexts(one.Tasks[at].After)
			kept := copyDag(want)
			for i := range kept.Tasks[at].After {
				kept.Tasks[at].After[i] = "scribble"
			}
			if !sameDag(one, kept) {
				t.Fatalf("two lists of ParseDag(%q) share memory", text)
			}
			afters := [][]string{}
			for _, t := range one.Tasks {
				afters = append(afters, slices.Clone(t.After))
			}
			lists := make([][]string, len(one.Tasks))
			for i, t := range one.Tasks {
				lists[i] = t.After
			}
			scribbleTasks(one.Tasks)
			for i := range lists {
				if !slices.Equal(lists[i], afters[i]) {
					t.Fatalf("the tasks of ParseDag(%q) share memory with an After", text)
				}
			}
		}
		// what is put behind one list is seen in no other
		for at := range first.Tasks {
			_ = append(first.Tasks[at].After, "behind")
		}
		if !sameDag(first, want) {
			t.Fatalf("the lists of ParseDag(%q) share the room behind them", text)
		}
		// two answers
		scribbleDag(first)
		if !sameDag(second, want) {
			t.Fatalf("two answers of ParseDag(%q) share memory", text)
		}
		if told != text {
			t.Fatalf("the text of %q has changed: %q", text, told)
		}
		wantDag(t, text, want, 0)
	}
}

func TestDagTextsAreNewMemory(t *testing.T) {
	d := draw(8012)
	for range 300 {
		plan := drawnDag(&d)
		text := strings.Clone(plainDagText(plan))
		got, _ := impl.ParseDag(text)
		texts := []string{got.Name, got.Cron}
		for _, t := range got.Tasks {
			texts = append(texts, t.Name, t.Pool)
			texts = append(texts, t.After...)
		}
		for _, part := range texts {
			if sharesBytes(part, text) {
				t.Fatalf("ParseDag(%q) answers bytes of its argument: %q", text, part)
			}
		}
		told, _ := impl.DagText(got)
		for _, part := range texts {
			if sharesBytes(part, told) {
				t.Fatalf("DagText answers bytes of its argument: %q", part)
			}
		}
	}
}

// what one call answers has no part in what the next one does
func TestParseDagKeepsNothing(t *testing.T) {
	right, other := textOf(handLines()...), "dag z\ncron 1 1 1 1 1\nfrom 5\nto 6\nlatest\ntask z wide 3 past\n"
	want := dag("z", "1 1 1 1 1", 5, 6, false, task("z", "wide", 3, true))
	for range 3 {
		wantDag(t, right, handDag(), 0)
		wantDag(t, other, want, 0)
		wantFault(t, textOf(handLines()[:6]...)+"x", 7)
		wantFault(t, textOf(handLines()[:5]...), 6)
		wantDag(t, other, want, 0)
		wantFault(t, strings.Repeat("x", 801), -1)
		wantFault(t, "task a one 0 free\n", 1)
		wantFault(t, "", 1)
	}
}
