package tests

import (
	"cmp"
	"fmt"
	"math"
	"slices"
	"strings"
	"sync"
	"testing"

	"loop.example/g00188/impl"
)

// all the days there are, made once
var everyDay = sync.OnceValue(plainDays)

// the spans of a rule in words from one minute up to another, so many at most
func plainSpansOf(rule string, from, upto, most int) []impl.Span {
	c, _ := plainParse(rule)
	begin, ok := plainNext(everyDay(), c, from, 400)
	var list []impl.Span
	for ok && len(list) < most {
		end, more := plainNext(everyDay(), c, begin+1, 400)
		if !more || end > upto {
			break
		}
		list = append(list, span(begin, end))
		begin = end
	}
	return list
}

func plainCommandOk(x impl.Command) bool {
	anything := func(string) bool { return true }
	nothing := func(s string) bool { return s == "" }
	aName := func(s string) bool { return nameForm.MatchString(s) }
	upTo := func(most int) func(int) bool { return func(n int) bool { return n >= 0 && n <= most } }
	zero, minute, number := upTo(0), upTo(68374079), upTo(1000000000)
	form, known := map[int]struct {
		text, task func(string) bool
		num, to    func(int) bool
		yes        bool
	}{
		1: {nothing, nothing, zero, zero, false},
		2: {anything, nothing, zero, zero, false},
		3: {aName, nothing, zero, zero, true},
		4: {nothing, nothing, minute, zero, false},
		5: {nothing, nothing, zero, zero, false},
		6: {nothing, nothing, number, zero, false},
		7: {nothing, nothing, number, zero, true},
		8: {aName, nothing, minute, minute, false},
		9: {aName, aName, minute, zero, false},
	}[x.Op]
	if !known || len(x.Text) > 600 || x.Op == 1 && (x.Token != 0 || x.Seq != 0) {
		return false
	}
	return upTo(1000000)(x.Token) && upTo(1000000)(x.Seq) && form.text(x.Text) && form.task(x.Task) && form.num(x.Num) && form.to(x.To) && (form.yes || !x.Yes)
}

func plainSubmit(b impl.Board, text string) (impl.Board, string) {
	b = copyBoard(b)
	d, line := plainParseDag(text)
	switch {
	case line != 0:
		return b, fmt.Sprintf("fault %d", line)
	case plainPlanAt(b, d.Name) >= 0:
		return b, "there"
	case len(b.Plans) >= 2:
		return b, "full"
	}
	b.Plans = append(b.Plans, impl.Plan{Dag: d, Cursor: d.From, Floor: d.From})
	slices.SortFunc(b.Plans, func(x, y impl.Plan) int { return strings.Compare(x.Dag.Name, y.Dag.Name) })
	return b, "plan"
}

// the run of a span comes ahead of the first one that is behind it, unless there is one of this From, or the plan is not right
func plainMake(b *impl.Board, d impl.Dag, s impl.Span) int {
	if !plainDagOk(d) || plainRunAt(*b, d.Name, s.From) >= 0 {
		return 0
	}
	at := 0
	for at < len(b.Runs) && (b.Runs[at].Dag < d.Name || b.Runs[at].Dag == d.Name && b.Runs[at].Span.From < s.From) {
		at++
	}
	b.Runs = slices.Insert(b.Runs, at, impl.Run{Dag: d.Name, Span: s, Tasks: make([]impl.State, len(d.Tasks))})
	return 1
}

// whether the task of this run could be finished
func plainEnd(b *impl.Board, k, i int, good bool) bool {
	at := plainPlanAt(*b, b.Runs[k].Dag)
	if at < 0 {
		return false
	}
	d := b.Plans[at].Dag
	r, ok := plainFinish(d, plainDagOk(d) && plainRunOk(d, b.Runs[k]), b.Runs[k], i, good, b.Clock)
	if ok {
		b.Runs[k] = r
	}
	return ok
}

func plainAdvance(b impl.Board, now int) (impl.Board, string) {
	b = copyBoard(b)
	if now < b.Clock {
		return b, "past"
	}
	b.Clock = now
	for k := range b.Runs {
		for i := range b.Runs[k].Tasks {
			if s := b.Runs[k].Tasks[i]; s.Is == 1 && s.Until <= now {
				plainEnd(&b, k, i, false)
			}
		}
	}
	b = plainSweep(b)
	made := 0
	for at := range b.Plans {
		p := &b.Plans[at]
		if p.Paused {
			continue
		}
		// each span begins where the one ahead ends, so that all of them may be told at once
		list := plainSpansOf(p.Dag.Cron, p.Cursor, min(now, p.Dag.To), map[bool]int{true: 40, false: 200}[p.Dag.CatchUp])
		if !p.Dag.CatchUp {
			list = list[max(0, len(list)-1):]
		}
		for _, s := range list {
			if len(b.Runs) >= 8 {
				break
			}
			p.Cursor = s.To
			if s.From >= p.Floor {
				made += plainMake(&b, p.Dag, s)
			}
		}
	}
	return b, fmt.Sprintf("made %d", made)
}

func plainGrant(b impl.Board) (impl.Board, string) {
	b = copyBoard(b)
	due := plainDue(b)
	if len(due) == 0 {
		return b, "idle"
	}
	k, i := due[0][0], due[0][1]
	b.Tokens++
	r, _ := plainBegin(b.Runs[k], i, b.Tokens, b.Clock+5)
	b.Runs[k] = r
	return b, fmt.Sprintf("lease %d %s %d %s", b.Tokens, r.Dag, r.Span.From, b.Plans[plainPlanAt(b, r.Dag)].Dag.Tasks[i].Name)
}

// the places of the first task that runs with this token; -1 without one
func plainRunning(b impl.Board, token int) (int, int) {
	for k, r := range b.Runs {
		for i, s := range r.Tasks {
			if s.Is == 1 && s.Token == token {
				return k, i
			}
		}
	}
	return -1, -1
}

func plainBeat(b impl.Board, token int) (impl.Board, string) {
	b = copyBoard(b)
	k, i := plainRunning(b, token)
	if k < 0 {
		return b, "stale"
	}
	b.Runs[k].Tasks[i].Until = b.Clock + 5
	return b, "ok"
}

func plainReport(b impl.Board, token int, good bool) (impl.Board, string) {
	b = copyBoard(b)
	k, i := plainRunning(b, token)
	if k < 0 || !plainEnd(&b, k, i, good) {
		return b, "stale"
	}
	r := b.Runs[k]
	done := fmt.Sprintf("done %s %d %s %d", r.Dag, r.Span.From, b.Plans[plainPlanAt(b, r.Dag)].Dag.Tasks[i].Name, r.Epoch)
	return b, map[int]string{0: "retry", 2: done, 3: "failed"}[r.Tasks[i].Is]
}

func plainBackfill(b impl.Board, name string, from, upto int) (impl.Board, string) {
	b = copyBoard(b)
	at := plainPlanAt(b, name)
	if at < 0 {
		return b, "none"
	}
	p := b.Plans[at]
	made := 0
	for _, s := range plainSpansOf(p.Dag.Cron, max(from, p.Floor), min(upto, b.Clock, p.Dag.To), 20) {
		if len(b.Runs) < 8 {
			made += plainMake(&b, p.Dag, s)
		}
	}
	return b, fmt.Sprintf("made %d", made)
}

func plainClearing(b impl.Board, name string, from int, task string) (impl.Board, string) {
	b = copyBoard(b)
	at, k := plainPlanAt(b, name), plainRunAt(b, name, from)
	if at < 0 || k < 0 {
		return b, "none"
	}
	d := b.Plans[at].Dag
	i := slices.IndexFunc(d.Tasks, func(t impl.Task) bool { return t.Name == task })
	r, ok := plainClear(d, plainDagOk(d) && plainRunOk(d, b.Runs[k]), b.Runs[k], i)
	if !ok {
		return b, "none"
	}
	b.Runs[k] = r
	return b, "cleared"
}

func plainPause(b impl.Board, name string, yes bool) (impl.Board, string) {
	b = copyBoard(b)
	at := plainPlanAt(b, name)
	if at < 0 {
		return b, "none"
	}
	b.Plans[at].Paused = yes
	return b, "set"
}

// the new session and all others but one of its Token; of four the least is gone
func plainOpen(b impl.Board, index int) (impl.Board, string) {
	b = copyBoard(b)
	list := []impl.Session{session(index, 0, "")}
	for _, s := range b.Sessions {
		if s.Token != index {
			list = append(list, s)
		}
	}
	slices.SortFunc(list, func(x, y impl.Session) int { return cmp.Compare(x.Token, y.Token) })
	if len(list) == 4 {
		list = list[1:]
	}
	b.Sessions = list
	return b, fmt.Sprintf("open %d", index)
}

// what a command of a session does, whichever session that is
func plainDone(b impl.Board, x impl.Command) (impl.Board, string) {
	switch x.Op {
	case 2:
		return plainSubmit(b, x.Text)
	case 3:
		return plainPause(b, x.Text, x.Yes)
	case 4:
		return plainAdvance(b, x.Num)
	case 5:
		return plainGrant(b)
	case 6:
		return plainBeat(b, x.Num)
	case 7:
		return plainReport(b, x.Num, x.Yes)
	case 8:
		return plainBackfill(b, x.Text, x.Num, x.To)
	}
	return plainClearing(b, x.Text, x.Num, x.Task)
}

func plainPerform(b impl.Board, index int, x impl.Command) (impl.Board, string, bool) {
	if index < 1 || index > 400000 || !plainCommandOk(x) || !plainBoardOk(b) {
		return impl.Board{}, "", false
	}
	b = copyBoard(b)
	if x.Op == 1 {
		next, reply := plainOpen(b, index)
		return next, reply, true
	}
	at := slices.IndexFunc(b.Sessions, func(s impl.Session) bool { return s.Token == x.Token })
	if at < 0 {
		return b, "none", true
	}
	s := b.Sessions[at]
	if x.Seq > s.Last+1 {
		return b, "gap", true
	}
	if x.Seq < s.Last || x.Seq == 0 {
		return b, "old", true
	}
	if x.Seq == s.Last {
		return b, s.Reply, true
	}
	next, reply := plainDone(b, x)
	if !plainBoardOk(next) {
		next, reply = b, "full"
	}
	next.Sessions[at].Last, next.Sessions[at].Reply = x.Seq, reply
	return next, reply, true
}

func plainFold(b impl.Board, list []impl.Entry, index int) (impl.Board, []string) {
	b = copyBoard(b)
	replies := make([]string, len(list))
	for at, e := range list {
		x, ok := plainReadCommand(e.Data)
		if e.Kind != 3 || !ok {
			continue
		}
		if next, reply, ok := plainPerform(b, index+at, x); ok {
			b, replies[at] = next, reply
		}
	}
	return b, replies
}

// what is asked of a board, as the program does it, and as the chapter's words do, done anew
type deed struct {
	told  string
	does  func(b impl.Board) (impl.Board, string)
	plain func(b impl.Board) (impl.Board, string)
}

func submitting(text string) deed {
	return deed{
		fmt.Sprintf("Submit(%.900q)", text),
		func(b impl.Board) (impl.Board, string) { return impl.Submit(b, text) },
		func(b impl.Board) (impl.Board, string) { return plainSubmit(b, text) },
	}
}

func advancing(now int) deed {
	return deed{
		fmt.Sprintf("Advance(%d)", now),
		func(b impl.Board) (impl.Board, string) { return impl.Advance(b, now) },
		func(b impl.Board) (impl.Board, string) { return plainAdvance(b, now) },
	}
}

func granting() deed { return deed{"Grant", impl.Grant, plainGrant} }

func beating(token int) deed {
	return deed{
		fmt.Sprintf("Beat(%d)", token),
		func(b impl.Board) (impl.Board, string) { return impl.Beat(b, token) },
		func(b impl.Board) (impl.Board, string) { return plainBeat(b, token) },
	}
}

func reporting(token int, good bool) deed {
	return deed{
		fmt.Sprintf("Report(%d, %v)", token, good),
		func(b impl.Board) (impl.Board, string) { return impl.Report(b, token, good) },
		func(b impl.Board) (impl.Board, string) { return plainReport(b, token, good) },
	}
}

func filling(name string, from, upto int) deed {
	return deed{
		fmt.Sprintf("Backfill(%.20q, %d, %d)", name, from, upto),
		func(b impl.Board) (impl.Board, string) { return impl.Backfill(b, name, from, upto) },
		func(b impl.Board) (impl.Board, string) { return plainBackfill(b, name, from, upto) },
	}
}

func clearing(name string, from int, task string) deed {
	return deed{
		fmt.Sprintf("Clear(%.20q, %d, %.20q)", name, from, task),
		func(b impl.Board) (impl.Board, string) { return impl.Clear(b, name, from, task) },
		func(b impl.Board) (impl.Board, string) { return plainClearing(b, name, from, task) },
	}
}

// what Perform answers with false: a text that is no reply, and the one that stood beside it
const refusal = "(false) "

func performing(index int, x impl.Command) deed {
	told := func(b impl.Board, reply string, ok bool) (impl.Board, string) {
		if !ok {
			return b, refusal + reply
		}
		return b, reply
	}
	return deed{
		fmt.Sprintf("Perform(%d, %.900s)", index, fmt.Sprintf("%+v", x)),
		func(b impl.Board) (impl.Board, string) { return told(impl.Perform(b, index, x)) },
		func(b impl.Board) (impl.Board, string) { return told(plainPerform(b, index, x)) },
	}
}

func folding(list []impl.Entry, index int) deed {
	told := func(b impl.Board, replies []string) (impl.Board, string) { return b, fmt.Sprintf("%q", replies) }
	return deed{
		fmt.Sprintf("Fold(%.900s, %d)", fmt.Sprintf("%v", list), index),
		func(b impl.Board) (impl.Board, string) { return told(impl.Fold(b, list, index)) },
		func(b impl.Board) (impl.Board, string) { return told(plainFold(b, list, index)) },
	}
}

func wantDeed(t *testing.T, b impl.Board, d deed, want impl.Board, reply string) {
	t.Helper()
	if got, said := d.does(b); said != reply || !sameBoard(got, want) {
		t.Fatalf("%s of\n%s is\n%s, %q, want\n%s, %q", d.told, tellBoard(b), tellBoard(got), said, tellBoard(want), reply)
	}
}

// by the chapter's words done anew, and by the program; what comes of it
func lookAtDeed(t *testing.T, b impl.Board, d deed) (impl.Board, string) {
	t.Helper()
	want, reply := d.plain(b)
	wantDeed(t, b, d, want, reply)
	return want, reply
}

// by hand, by the chapter's words done anew, and by the program; what comes of it
func handDeed(t *testing.T, b impl.Board, d deed, want impl.Board, reply string) impl.Board {
	t.Helper()
	if plain, said := d.plain(b); said != reply || !sameBoard(plain, want) {
		t.Fatalf("by hand %s of\n%s is\n%s, %q, and not\n%s, %q", d.told, tellBoard(b), tellBoard(want), reply, tellBoard(plain), said)
	}
	wantDeed(t, b, d, want, reply)
	return want
}

// the board stays as it is
func wantStays(t *testing.T, b impl.Board, d deed, reply string) {
	t.Helper()
	handDeed(t, b, d, b, reply)
}

// a board on which this is changed
func changed(b impl.Board, change func(b *impl.Board)) impl.Board {
	b = copyBoard(b)
	change(&b)
	return b
}

func TestCommandConstants(t *testing.T) {
	ops := []int{impl.OpOpen, impl.OpSubmit, impl.OpPause, impl.OpClock, impl.OpTake, impl.OpBeat, impl.OpReport, impl.OpBackfill, impl.OpClear}
	if !slices.Equal(ops, []int{1, 2, 3, 4, 5, 6, 7, 8, 9}) {
		t.Errorf("the Ops are %v", ops)
	}
}

func wantCommandOk(t *testing.T, x impl.Command, want bool) {
	t.Helper()
	if plainCommandOk(x) != want {
		t.Fatalf("by hand CommandOk(%.300s) is %v", fmt.Sprintf("%+v", x), want)
	}
	if got := impl.CommandOk(x); got != want {
		t.Fatalf("CommandOk(%.300s) = %v", fmt.Sprintf("%+v", x), got)
	}
}

// a right command of each Op, with all that it uses
func rightCommands() []impl.Command {
	return []impl.Command{
		{Op: 1},
		{Op: 2, Token: 5, Seq: 2, Text: "dag"},
		{Op: 3, Token: 5, Seq: 2, Text: "ann", Yes: true},
		{Op: 4, Token: 5, Seq: 2, Num: 60},
		{Op: 5, Token: 5, Seq: 2},
		{Op: 6, Token: 5, Seq: 2, Num: 7},
		{Op: 7, Token: 5, Seq: 2, Num: 7, Yes: true},
		{Op: 8, Token: 5, Seq: 2, Text: "ann", Num: 60, To: 600},
		{Op: 9, Token: 5, Seq: 2, Text: "ann", Num: 60, Task: "a"},
	}
}

func commandNumbers() []int {
	return []int{math.MinInt64, -1 << 32, -68374079, -2, -1, 0, 1, 2, 5, 600, 999999, 1000000, 1000001, 68374078, 68374079, 68374080, 68374081, 999999991, 999999999, 1000000000, 1000000001, 1 << 32, 1<<32 + 5, math.MaxInt64}
}

func TestCommandOkOps(t *testing.T) {
	for _, x := range rightCommands() {
		wantCommandOk(t, x, true)
		// with nothing that may be left out
		x.Token, x.Seq, x.Yes = 0, 0, false
		wantCommandOk(t, x, true)
		for _, op := range []int{math.MinInt64, -1 << 32, -9, -1, 0, 10, 11, 255, 256, 257, 265, 1<<32 + 1, 1<<32 + 5, math.MaxInt64} {
			x.Op = op
			wantCommandOk(t, x, false)
			wantCommandOk(t, impl.Command{Op: op}, false)
			wantCommandOk(t, impl.Command{Op: op, Token: 5, Seq: 2}, false)
		}
	}
	wantCommandOk(t, impl.Command{}, false)
	// a command of one Op with the fields of another
	for _, x := range rightCommands() {
		for op := range 11 {
			other := x
			other.Op = op
			want := map[[2]int]bool{{1, 5}: true, {2, 5}: false, {7, 6}: false, {6, 7}: true, {4, 6}: true, {6, 4}: true, {4, 7}: true, {3, 8}: false, {8, 9}: false, {9, 8}: false, {3, 2}: false, {5, 2}: true, {1, 2}: true, {5, 4}: true, {5, 6}: true, {5, 7}: true, {1, 4}: true, {1, 6}: true, {1, 7}: true, {5, 1}: false}
			if right, told := want[[2]int{x.Op, op}]; told {
				wantCommandOk(t, other, right)
			}
			wantCommandOk(t, other, plainCommandOk(other))
		}
	}
}

func TestCommandOkTokenAndSeq(t *testing.T) {
	for _, x := range rightCommands() {
		for _, number := range commandNumbers() {
			want := number >= 0 && number <= 1000000
			if x.Op == 1 {
				want = number == 0
			}
			token, seq, both := x, x, x
			token.Token, seq.Seq, both.Token, both.Seq = number, number, number, number
			wantCommandOk(t, token, want)
			wantCommandOk(t, seq, want)
			wantCommandOk(t, both, want)
		}
	}
}

func TestCommandOkNumbers(t *testing.T) {
	for _, x := range rightCommands() {
		for _, number := range commandNumbers() {
			num, to := x, x
			num.Num, to.To = number, number
			// at most; of what is not used 0
			most := map[int]int{4: 68374079, 6: 1000000000, 7: 1000000000, 8: 68374079, 9: 68374079}[x.Op]
			wantCommandOk(t, num, number >= 0 && number <= most)
			most = map[int]int{8: 68374079}[x.Op]
			wantCommandOk(t, to, number >= 0 && number <= most)
		}
	}
	// from may be above To
	wantCommandOk(t, impl.Command{Op: 8, Text: "ann", Num: 68374079, To: 0}, true)
	wantCommandOk(t, impl.Command{Op: 8, Text: "ann"}, true)
}

func TestCommandOkTexts(t *testing.T) {
	names := []string{"a", "z", "ann", "a1", "z9999999", "abcdefgh", "one", "task"}
	others := []string{"A", "1", "1a", "9", "_", "abcdefghi", "a b", " a", "a ", "a,b", "a\n", "\x00", "a\x00", "\xff", "ä", "Ann", "aNn", "a-b", longText(8), longText(9), longText(599), longText(600)}
	tooLong := []string{longText(601), longText(602), longText(856), longText(20001), longText(65536), longText(65536 + 600), strings.Repeat("a", 601)}
	for _, x := range rightCommands() {
		look := func(s string, isName, isText bool) {
			t.Helper()
			text, task := x, x
			text.Text, task.Task = s, s
			wantCommandOk(t, text, x.Op == 2 && isText || isName && slices.Contains([]int{3, 8, 9}, x.Op))
			wantCommandOk(t, task, x.Op == 9 && isName)
		}
		for _, s := range names {
			look(s, true, true)
		}
		for _, s := range others {
			look(s, false, true)
		}
		for _, s := range tooLong {
			look(s, false, false)
		}
		text, task := x, x
		text.Text, task.Task = "", ""
		wantCommandOk(t, text, !slices.Contains([]int{3, 8, 9}, x.Op))
		wantCommandOk(t, task, x.Op != 9)
	}
}

func TestCommandOkYes(t *testing.T) {
	for _, x := range rightCommands() {
		x.Yes = false
		wantCommandOk(t, x, true)
		x.Yes = true
		wantCommandOk(t, x, x.Op == 3 || x.Op == 7)
	}
}

// right commands of which some fields are others
func TestDrawnCommandsOk(t *testing.T) {
	d := draw(16)
	numbers, texts := commandNumbers(), []string{"", "ann", "a", "A", "abcdefghi", longText(600), longText(601)}
	rights := 0
	for range 60000 {
		x := rightCommands()[d.below(9)]
		for range 1 + d.below(4) {
			switch d.below(7) {
			case 0:
				x.Op = d.below(11)
			case 1:
				x.Token = numbers[d.below(len(numbers))]
			case 2:
				x.Seq = numbers[d.below(len(numbers))]
			case 3:
				x.Text = texts[d.below(len(texts))]
			case 4:
				x.Task = texts[d.below(len(texts))]
			case 5:
				x.Num, x.To = x.To, numbers[d.below(len(numbers))]
			case 6:
				x.Yes = !x.Yes
			}
		}
		want := plainCommandOk(x)
		wantCommandOk(t, x, want)
		if want {
			rights++
		}
	}
	if rights < 4000 || rights > 54000 {
		t.Errorf("%d of 60000 are right", rights)
	}
}

func TestSubmit(t *testing.T) {
	for _, sessions := range [][]impl.Session{nil, {session(3, 7, "x"), session(9, 0, "")}} {
		empty := impl.Board{Clock: 70, Tokens: 8, Sessions: sessions}
		text := textOf(handLines()...)
		first := handDeed(t, empty, submitting(text), changed(empty, func(b *impl.Board) { b.Plans = plansOf(handDag()) }), "plan")
		// a second one ahead of it and behind it, by the bytes of the name
		for _, name := range []string{"a", "al", "an", "anm", "ann0", "anna", "annn", "bob", "z", "zz9"} {
			second := named(name, diamond())
			second.From, second.To, second.CatchUp = 77, 88, false
			want := []impl.Dag{handDag(), second}
			if name < "ann" {
				want = []impl.Dag{second, handDag()}
			}
			both := handDeed(t, first, submitting(plainDagText(second)), changed(first, func(b *impl.Board) { b.Plans = plansOf(want...) }), "plan")
			acceptBoard(t, both)
			// a third one, and those that are there, whatever else they say
			for _, other := range []string{"ab", "c", "zzzz"} {
				wantStays(t, both, submitting(plainDagText(named(other, handDag()))), "full")
			}
			wantStays(t, both, submitting(text), "there")
			wantStays(t, both, submitting(plainDagText(named(name, handDag()))), "there")
			wantStays(t, both, submitting(plainDagText(named("ann", chain()))), "there")
			// a fault comes first
			wantStays(t, both, submitting("dag"), "fault 1")
			wantStays(t, both, submitting(""), "fault 1")
			wantStays(t, both, submitting(longText(801)), "fault -1")
		}
		wantStays(t, first, submitting(text), "there")
		// what is there stays as it is: Paused, Cursor, Floor and runs
		moved := changed(first, func(b *impl.Board) {
			b.Plans[0] = impl.Plan{Dag: handDag(), Paused: true, Cursor: 300, Floor: 120}
			b.Runs = []impl.Run{hour(handDag(), 120, 2, 0)}
		})
		wantStays(t, moved, submitting(text), "there")
		handDeed(t, moved, submitting(plainDagText(named("abe", chain()))), changed(moved, func(b *impl.Board) {
			b.Plans = slices.Insert(b.Plans, 0, planOf(named("abe", chain())))
		}), "plan")
	}
}

// not Paused, Cursor and Floor its From, wherever that is; the Clock has no part in it
func TestSubmitBegins(t *testing.T) {
	for _, ends := range [][2]int{{0, 0}, {0, 600}, {1, 1}, {59, 600}, {600, 68374079}, {68374079, 68374079}} {
		for _, clock := range []int{0, 60, 68374079} {
			d := dag("ann", "0,30 * * * *", ends[0], ends[1], true, one("a"), one("b", "a"))
			b := impl.Board{Clock: clock, Tokens: 1}
			then := handDeed(t, b, submitting(plainDagText(d)), changed(b, func(b *impl.Board) {
				b.Plans = []impl.Plan{{Dag: d, Cursor: ends[0], Floor: ends[0]}}
			}), "plan")
			acceptBoard(t, then)
		}
	}
	// the rule and After as the plan tells them, however they were written
	d := dag("ann", "0,30 * * * *", 5, 9, false, task("c", "one", 3, true, "a", "b"), one("a"), one("b"))
	text := "# a plan\n\n dag  ann \ncron */30  * * * *\nfrom 5\nto 9\nlatest\ntask c one 3 past b,a\n  # more\ntask a one 0 free\ntask b one 0 free"
	handDeed(t, impl.Board{}, submitting(text), impl.Board{Plans: plansOf(d)}, "plan")
}

func TestSubmitFaults(t *testing.T) {
	full := fullBoard()
	one := impl.Board{Plans: plansOf(named("bob", handDag()))}
	for _, b := range []impl.Board{{}, impl.BoardNew(), one, full} {
		for number, lines := range [][]string{
			{"dag", "dag Ann", "dag ann bob", "cron 0 * * * *", "plan ann", "\xff"},
			{"cron", "cron 0 * * *", "cron 60 * * * *", "dag ann", "cron 0 * * * * *"},
			{"from", "from -1", "from 68374080", "from x", "to 600", "from 00"},
			{"to", "to -1", "to 68374080", "from 0", "to 1 2"},
			{"catch", "catchup now", "task a one 1 free", "latest catchup"},
			{"task", "task a", "task a three 1 free", "task a one 4 free", "task a one 1 none", "task A one 1 free"},
			{"task a two 0 past", "task b two 0 past A", "task b two 0 past a,a", "dag ann", "task b two 0 past a b"},
		} {
			for _, line := range lines {
				wantStays(t, b, submitting(handWith(number+1, line)), fmt.Sprintf("fault %d", number+1))
			}
		}
		// lines that lack, and plans that are not right, are told behind all lines
		for count := range 6 {
			wantStays(t, b, submitting(textOf(handLines()[:count]...)), fmt.Sprintf("fault %d", count+1))
		}
		wantStays(t, b, submitting(handWith(7, "task b two 0 past c")), "fault 8")
		wantStays(t, b, submitting(handWith(6, "task a one 1 free b")), "fault 8")
		// a text of 800 bytes is read, and one of 801 is not
		for _, length := range []int{799, 800, 801, 802, 20001} {
			text := paddedTo(textOf(handLines()...), length)
			reply := map[int]string{len(full.Plans): "there", 0: "plan", 1: "plan"}[len(b.Plans)]
			if length > 800 {
				wantStays(t, b, submitting(text), "fault -1")
			} else if _, said := lookAtDeed(t, b, submitting(text)); said != reply {
				t.Fatalf("a plan of %d bytes is replied %q", length, said)
			}
		}
	}
}

func TestDrawnSubmits(t *testing.T) {
	d := draw(1016)
	told := map[string]int{}
	for range 4000 {
		_, reply := lookAtDeed(t, busyBoard(&d), submitting(drawnSubmission(&d)))
		told[strings.Fields(reply)[0]]++
	}
	if told["plan"] < 300 || told["there"] < 300 || told["full"] < 300 || told["fault"] < 300 {
		t.Errorf("replied is %v", told)
	}
}

// a plan in words, most often a right one
func drawnSubmission(d *draw) string {
	if d.below(4) == 0 {
		return drawnDagText(d)
	}
	plan := drawnDag(d)
	plan.Name = busyNames()[d.below(4)]
	return plainDagText(plan)
}

func busyNames() []string { return []string{"a", "ann", "bob", "z"} }

// a right board amid its plans: rules that fire often, runs in their spans, and a Clock that is near
func busyBoard(d *draw) impl.Board {
	begin := []int{0, 0, 68374079 - 900}[d.below(3)]
	b := impl.Board{Clock: min(68374079, begin+[]int{0, d.below(100), d.below(700), d.below(700), d.below(700), 900}[d.below(6)])}
	for at := range d.below(4) {
		s := session(1+100*at+d.below(100), []int{0, 1, 1000000, 1 + d.below(5)}[d.below(4)], "")
		if s.Last > 0 {
			s.Reply = []string{"", "ok", "made 3", longText(60)}[d.below(4)]
		}
		b.Sessions = append(b.Sessions, s)
	}
	for at := range []int{0, 1, 2, 2, 2, 2}[d.below(6)] {
		b.Plans = append(b.Plans, busyPlan(d, busyNames()[2*at+d.below(2)], begin))
	}
	count := []int{0, 8, d.below(9), d.below(9)}[d.below(4)]
	for at, p := range b.Plans {
		most := count - len(b.Runs)
		if at < len(b.Plans)-1 {
			most = d.below(most + 1)
		}
		for _, s := range plainSpansOf(p.Dag.Cron, p.Floor, 68374079, 12) {
			if most > 0 && d.below(4) > 0 {
				b.Runs = append(b.Runs, impl.Run{Dag: p.Dag.Name, Span: s, Epoch: []int{0, 0, 1, 999, 1000}[d.below(5)]})
				most--
			}
		}
	}
	drawStates(d, &b)
	drawTokens(d, &b)
	if d.below(8) > 0 {
		b.Tokens = min(b.Tokens, 999999990)
	}
	for _, r := range b.Runs {
		for _, s := range r.Tasks {
			b.Tokens = max(b.Tokens, s.Token)
		}
	}
	return b
}

func busyPlan(d *draw, name string, begin int) impl.Plan {
	rules := []string{"* * * * *", "0 * * * *", "0,30 * * * *", "0,10,20,30,40,50 * * * *", "7,8 * * * *", "0 0 * * *"}
	from := min(68374079, begin+[]int{0, d.below(60), d.below(900)}[d.below(3)])
	to := min(68374079, from+[]int{900, d.below(900), d.below(900)}[d.below(3)])
	p := impl.Plan{Dag: dag(name, rules[d.below(6)], from, to, d.below(2) == 0, drawnDag(d).Tasks...), Paused: d.below(5) == 0}
	p.Cursor = min(68374080, from+[]int{0, 0, d.below(60), d.below(700), 900}[d.below(5)])
	p.Floor = min(68374079, from+[]int{0, 0, d.below(60), d.below(700)}[d.below(4)])
	return p
}

// hourly plans of one task each, and nothing made yet
func hourly(name string, from, to int, catchUp bool) impl.Dag {
	return dag(name, "0 * * * *", from, to, catchUp, task("a", "wide", 0, false))
}

func TestAdvanceClock(t *testing.T) {
	ann := hourly("ann", 0, 600, true)
	b := boardOf(plansOf(ann), hour(ann, 0, 0))
	b.Plans[0].Cursor = 60
	for _, now := range []int{math.MinInt64, -1 << 32, -1, 0, 1, 60, 98, 99} {
		wantStays(t, b, advancing(now), "past")
	}
	for _, now := range []int{100, 101, 119} {
		handDeed(t, b, advancing(now), changed(b, func(b *impl.Board) { b.Clock = now }), "made 0")
	}
	handDeed(t, b, advancing(120), changed(b, func(b *impl.Board) {
		b.Clock, b.Plans[0].Cursor = 120, 120
		b.Runs = append(b.Runs, hour(ann, 60, 0))
	}), "made 1")
	// at the same minute the rest is done all the same
	b.Clock = 130
	handDeed(t, b, advancing(130), changed(b, func(b *impl.Board) {
		b.Plans[0].Cursor = 120
		b.Runs = append(b.Runs, hour(ann, 60, 0))
	}), "made 1")
	wantStays(t, b, advancing(129), "past")
	// a board without anything
	for _, empty := range []impl.Board{{}, impl.BoardNew()} {
		for _, now := range []int{0, 1, 68374079} {
			handDeed(t, empty, advancing(now), changed(empty, func(b *impl.Board) { b.Clock = now }), "made 0")
		}
		wantStays(t, empty, advancing(-1), "past")
	}
}

// what runs, and how long it may, in several runs of two plans, with tries left and used up
func TestAdvanceEndsLeases(t *testing.T) {
	ann := dag("ann", "0 * * * *", 0, 0, true, task("a", "two", 2, false), task("b", "wide", 0, false), task("c", "one", 1, false, "a", "b"))
	bob := named("bob", ann)
	for tries := range 4 {
		for _, untils := range kindsOf(3, 104, 106) {
			b := boardOf(plansOf(ann, bob), hour(ann, 0, 1, 1, 0), hour(ann, 60, 0, 0, 0), hour(bob, 0, 2, 1, 0))
			b.Runs[0].Tasks[0].Tries = tries
			b.Runs[0].Tasks[0].Until, b.Runs[0].Tasks[1].Until, b.Runs[2].Tasks[1].Until = untils[0], untils[1], untils[2]
			acceptBoard(t, b)
			want := copyBoard(b)
			want.Clock = 105
			stuck := false
			if untils[0] <= 105 {
				switch tries {
				case 0:
					want.Runs[0].Tasks[0] = state(0, 1, 0, 107)
				case 1:
					want.Runs[0].Tasks[0] = state(0, 2, 0, 109)
				default:
					want.Runs[0].Tasks[0] = state(3, 3, 0, 0)
					stuck = true
				}
			}
			if untils[1] <= 105 {
				want.Runs[0].Tasks[1] = state(3, 1, 0, 0)
				stuck = true
			}
			if stuck {
				want.Runs[0].Tasks[2] = state(4, 0, 0, 0)
			}
			if untils[2] <= 105 {
				want.Runs[2].Tasks[1], want.Runs[2].Tasks[2] = state(3, 1, 0, 0), state(4, 0, 0, 0)
			}
			handDeed(t, b, advancing(105), want, "made 0")
			acceptBoard(t, want)
			// what is Paused ends, too
			b.Plans[0].Paused, want.Plans[0].Paused = true, true
			handDeed(t, b, advancing(105), want, "made 0")
		}
	}
	// what waits, is done, failed or blocked has its Until no matter what
	b := boardOf(plansOf(ann), hour(ann, 0, 3, 2, 4), hour(ann, 60, 0, 2, 0), hour(ann, 120, 2, 2, 3))
	for k := range b.Runs {
		for i := range b.Runs[k].Tasks {
			b.Runs[k].Tasks[i].Until = 50
		}
	}
	handDeed(t, b, advancing(105), changed(b, func(b *impl.Board) { b.Clock = 105 }), "made 0")
	// the last minute there is, and the first one
	for _, now := range []int{0, 68374079} {
		b := boardOf(plansOf(ann), hour(ann, 0, 1, 1, 0))
		b.Clock = 0
		b.Runs[0].Tasks[0].Until, b.Runs[0].Tasks[1].Until = now, now+1
		handDeed(t, b, advancing(now), changed(b, func(b *impl.Board) {
			b.Clock = now
			b.Runs[0].Tasks[0] = state(0, 1, 0, now+2)
		}), "made 0")
	}
}

// what ends by its lease is swept in the same turn, and what lies ahead of the Floor then is not made again
func TestAdvanceSweeps(t *testing.T) {
	ann := hourly("ann", 0, 600, true)
	for _, until := range []int{99, 100, 104, 105, 106} {
		b := boardOf(plansOf(ann), hour(ann, 0, 2), hour(ann, 60, 1), hour(ann, 120, 0))
		b.Runs[1].Tasks[0].Until = until
		b.Plans[0].Cursor = 180
		want := copyBoard(b)
		want.Clock = 105
		if until <= 105 {
			want.Runs[1].Tasks[0] = state(3, 1, 0, 0)
			want.Runs, want.Plans[0].Floor = want.Runs[1:], 60
		}
		handDeed(t, b, advancing(105), want, "made 0")
		acceptBoard(t, want)
		// Paused or not
		b.Plans[0].Paused, want.Plans[0].Paused = true, true
		handDeed(t, b, advancing(105), want, "made 0")
		b.Plans[0].Paused, want.Plans[0].Paused = false, false
		// a Cursor that lies behind goes on, past what is gone and what is there
		b.Plans[0].Cursor, b.Clock = 0, 105
		want.Plans[0].Cursor, want.Clock = 180, 200
		if until > 105 {
			want.Runs[1].Tasks[0] = state(3, 1, 0, 0)
			want.Runs, want.Plans[0].Floor = want.Runs[1:], 60
		}
		handDeed(t, b, advancing(200), want, "made 0")
	}
	// there is room for as many as are gone
	b := boardOf(plansOf(ann), hour(ann, 0, 2), hour(ann, 60, 3), hour(ann, 120, 2), hour(ann, 180, 0), hour(ann, 240, 0), hour(ann, 300, 0), hour(ann, 360, 0), hour(ann, 420, 0))
	b.Plans[0].Cursor = 480
	acceptBoard(t, b)
	handDeed(t, b, advancing(600), changed(b, func(b *impl.Board) {
		b.Clock, b.Plans[0].Cursor, b.Plans[0].Floor = 600, 600, 120
		b.Runs = append(b.Runs[2:], hour(ann, 480, 0), hour(ann, 540, 0))
	}), "made 2")
}

func TestAdvanceCatchesUp(t *testing.T) {
	ann := hourly("ann", 0, 300, true)
	for _, known := range []struct{ cursor, now, first, count, then int }{
		// from the Cursor on, up to now
		{0, 59, 0, 0, 0}, {0, 60, 0, 1, 60}, {0, 61, 0, 1, 60}, {0, 119, 0, 1, 60}, {0, 120, 0, 2, 120}, {0, 180, 0, 3, 180}, {0, 239, 0, 3, 180},
		{1, 119, 0, 0, 1}, {1, 120, 60, 1, 120}, {59, 180, 60, 2, 180}, {60, 180, 60, 2, 180}, {61, 180, 120, 1, 180}, {61, 179, 0, 0, 61},
		// and up to the plan's To
		{0, 299, 0, 4, 240}, {0, 300, 0, 5, 300}, {0, 301, 0, 5, 300}, {0, 360, 0, 5, 300}, {0, 68374079, 0, 5, 300}, {240, 400, 240, 1, 300}, {241, 400, 0, 0, 241},
		// a Cursor at now and past it, at To and past it
		{60, 60, 0, 0, 60}, {120, 60, 0, 0, 120}, {299, 400, 0, 0, 299}, {300, 400, 0, 0, 300}, {301, 400, 0, 0, 301}, {360, 68374079, 0, 0, 360}, {68374079, 68374079, 0, 0, 68374079}, {68374080, 68374079, 0, 0, 68374080},
	} {
		b := impl.Board{Plans: plansOf(ann)}
		b.Plans[0].Cursor = known.cursor
		want := copyBoard(b)
		want.Clock, want.Plans[0].Cursor = known.now, known.then
		want.Runs = hoursOf(ann, known.first, known.count)
		acceptBoard(t, want)
		handDeed(t, b, advancing(known.now), want, fmt.Sprint("made ", known.count))
		// asked again there is nothing more
		handDeed(t, want, advancing(known.now), want, "made 0")
		// a plan that is Paused has none, and its Cursor stays
		b.Plans[0].Paused = true
		handDeed(t, b, advancing(known.now), changed(b, func(b *impl.Board) { b.Clock = known.now }), "made 0")
	}
	// a To that is no minute of the rule
	short := hourly("ann", 0, 119, true)
	handDeed(t, impl.Board{Plans: plansOf(short)}, advancing(500), impl.Board{Plans: []impl.Plan{{Dag: short, Cursor: 60}}, Runs: hoursOf(short, 0, 1), Clock: 500}, "made 1")
	// a From that is none
	late := hourly("ann", 61, 600, true)
	handDeed(t, impl.Board{Plans: plansOf(late)}, advancing(200), impl.Board{Plans: []impl.Plan{{Dag: late, Cursor: 180, Floor: 61}}, Runs: hoursOf(late, 120, 1), Clock: 200}, "made 1")
}

func TestAdvanceTakesTheLatest(t *testing.T) {
	ann := hourly("ann", 0, 300, false)
	for _, known := range []struct{ cursor, now, from, then int }{
		{0, 59, -1, 0}, {0, 60, 0, 60}, {0, 119, 0, 60}, {0, 120, 60, 120}, {0, 239, 120, 180}, {0, 240, 180, 240},
		{1, 119, -1, 1}, {1, 120, 60, 120}, {60, 180, 120, 180}, {61, 180, 120, 180}, {61, 179, -1, 61},
		{0, 299, 180, 240}, {0, 300, 240, 300}, {0, 301, 240, 300}, {0, 68374079, 240, 300}, {240, 400, 240, 300}, {241, 400, -1, 241},
		{60, 60, -1, 60}, {120, 60, -1, 120}, {300, 400, -1, 300}, {301, 400, -1, 301}, {68374080, 68374079, -1, 68374080},
	} {
		b := impl.Board{Plans: plansOf(ann)}
		b.Plans[0].Cursor = known.cursor
		want := copyBoard(b)
		want.Clock, want.Plans[0].Cursor = known.now, known.then
		reply := "made 0"
		if known.from >= 0 {
			want.Runs, reply = hoursOf(ann, known.from, 1), "made 1"
		}
		acceptBoard(t, want)
		handDeed(t, b, advancing(known.now), want, reply)
		handDeed(t, want, advancing(known.now), want, "made 0")
		b.Plans[0].Paused = true
		handDeed(t, b, advancing(known.now), changed(b, func(b *impl.Board) { b.Clock = known.now }), "made 0")
	}
	// of more than 200 spans the last one of the first 200
	b := impl.Board{Plans: plansOf(dag("ann", "* * * * *", 0, 1000, false, one("a")))}
	for turn := range 5 {
		next, reply := lookAtDeed(t, b, advancing(900))
		from := min(200*turn+199, 899)
		if reply != "made 1" || next.Plans[0].Cursor != from+1 || impl.RunAt(next, "ann", from) != turn || len(next.Runs) != turn+1 {
			t.Fatalf("turn %d is %s, %q", turn, tellBoard(next), reply)
		}
		b = next
	}
	wantStays(t, b, advancing(900), "made 0")
}

// a span that has a run already, or that lies ahead of the Floor, only moves the Cursor
func TestAdvancePassesOver(t *testing.T) {
	for _, catchUp := range []bool{true, false} {
		ann := hourly("ann", 0, 600, catchUp)
		for have := range 1 << 4 {
			for _, floor := range []int{0, 1, 59, 60, 61, 120, 121, 180, 181, 240, 400} {
				b := impl.Board{Plans: []impl.Plan{{Dag: ann, Floor: floor}}, Tokens: 1}
				want := impl.Board{Plans: []impl.Plan{{Dag: ann, Floor: floor, Cursor: 240}}, Tokens: 1, Clock: 240}
				made := 0
				for at := range 4 {
					// each run is in the midst of its work
					r := hour(ann, 60*at, 0)
					r.Epoch, r.Tasks[0].Until = 3, 7
					there, due := have>>at&1 == 1 && 60*at >= floor, 60*at >= floor && (catchUp || at == 3)
					if there {
						b.Runs = append(b.Runs, r)
						want.Runs = append(want.Runs, r)
					} else if due {
						want.Runs = append(want.Runs, hour(ann, 60*at, 0))
						made++
					}
				}
				acceptBoard(t, b)
				acceptBoard(t, want)
				handDeed(t, b, advancing(240), want, fmt.Sprint("made ", made))
			}
		}
	}
	// the run of another plan with the same From is no matter
	ann, bob := hourly("ann", 0, 600, true), hourly("bob", 0, 600, true)
	b := boardOf(plansOf(ann, bob), hour(bob, 0, 0))
	handDeed(t, b, advancing(100), changed(b, func(b *impl.Board) {
		b.Plans[0].Cursor, b.Plans[1].Cursor = 60, 60
		b.Runs = []impl.Run{hour(ann, 0, 0), hour(bob, 0, 0)}
	}), "made 1")
	// the From of a run counts, and not its To
	odd := boardOf(plansOf(ann), impl.Run{Dag: "ann", Span: span(0, 30), Tasks: states(0)}, impl.Run{Dag: "ann", Span: span(30, 120), Tasks: states(0)})
	handDeed(t, odd, advancing(120), changed(odd, func(b *impl.Board) {
		b.Clock, b.Plans[0].Cursor = 120, 120
		b.Runs = append(b.Runs, hour(ann, 60, 0))
	}), "made 1")
}

// MaxRuns met ahead of it and while runs are made, by one plan and by two
func TestAdvanceRoom(t *testing.T) {
	for _, catchUp := range []bool{true, false} {
		ann, bob := hourly("ann", 0, 6000, catchUp), hourly("bob", 0, 6000, true)
		for count := range 9 {
			// runs of bob are there, far behind
			b := boardOf(plansOf(ann, bob), hoursOf(bob, 3000, count)...)
			b.Plans[1].Cursor = 6000
			want := copyBoard(b)
			want.Clock = 540
			made := min(9, 8-count)
			if !catchUp {
				made = min(1, 8-count)
			}
			switch {
			case made == 0:
			case catchUp:
				want.Runs = append(hoursOf(ann, 0, made), want.Runs...)
				want.Plans[0].Cursor = 60 * made
			default:
				want.Runs = append(hoursOf(ann, 480, 1), want.Runs...)
				want.Plans[0].Cursor = 540
			}
			acceptBoard(t, want)
			handDeed(t, b, advancing(540), want, fmt.Sprint("made ", made))
			// no room, and the Cursor does not move, even past what is there
			if count == 8 {
				b.Plans[1].Cursor = 3000
				handDeed(t, b, advancing(3600), changed(b, func(b *impl.Board) { b.Clock = 3600 }), "made 0")
			}
		}
		// what the first plan takes, the second one lacks
		b := impl.Board{Plans: plansOf(ann, bob)}
		for _, hours := range []int{1, 2, 3, 4, 5, 7, 8, 9} {
			first := hours
			if !catchUp {
				first = 1
			}
			second := min(hours, 8-min(first, 8))
			first = min(first, 8)
			want := copyBoard(b)
			want.Clock = 60 * hours
			want.Plans[0].Cursor, want.Plans[1].Cursor = 60*first, 60*second
			want.Runs = hoursOf(ann, 0, first)
			if !catchUp {
				want.Plans[0].Cursor, want.Runs = 60*hours, hoursOf(ann, 60*hours-60, 1)
			}
			want.Runs = append(want.Runs, hoursOf(bob, 0, second)...)
			acceptBoard(t, want)
			handDeed(t, b, advancing(60*hours), want, fmt.Sprint("made ", first+second))
			// where the first one is Paused, the second one has all the room
			paused := changed(b, func(b *impl.Board) { b.Plans[0].Paused = true })
			handDeed(t, paused, advancing(60*hours), changed(paused, func(b *impl.Board) {
				b.Clock, b.Plans[1].Cursor = 60*hours, 60*min(hours, 8)
				b.Runs = hoursOf(bob, 0, min(hours, 8))
			}), fmt.Sprint("made ", min(hours, 8)))
		}
	}
}

// of one plan 40 spans are come to at once, whether a run is made of them or not
func TestAdvanceFortySpans(t *testing.T) {
	every := dag("ann", "* * * * *", 0, 1000, true, task("a", "wide", 0, false))
	minutes := func(from, count int) []impl.Run {
		var runs []impl.Run
		for at := range count {
			runs = append(runs, impl.Run{Dag: "ann", Span: span(from+at, from+at+1), Tasks: states(0)})
		}
		return runs
	}
	// how many are made in each turn, and the Cursor then
	for _, known := range []struct {
		floor int
		turns [][2]int
	}{
		{0, [][2]int{{8, 8}, {0, 8}}}, {1, [][2]int{{8, 9}, {0, 9}}}, {32, [][2]int{{8, 40}, {0, 40}}}, {33, [][2]int{{7, 40}, {1, 41}, {0, 41}}},
		{38, [][2]int{{2, 40}, {6, 46}, {0, 46}}}, {39, [][2]int{{1, 40}, {7, 47}, {0, 47}}}, {40, [][2]int{{0, 40}, {8, 48}, {0, 48}}}, {41, [][2]int{{0, 40}, {8, 49}, {0, 49}}},
		{79, [][2]int{{0, 40}, {1, 80}, {7, 87}, {0, 87}}}, {80, [][2]int{{0, 40}, {0, 80}, {8, 88}}}, {81, [][2]int{{0, 40}, {0, 80}, {8, 89}}}, {200, [][2]int{{0, 40}, {0, 80}, {0, 120}, {0, 160}, {0, 200}, {8, 208}}},
	} {
		b := impl.Board{Plans: []impl.Plan{{Dag: every, Floor: known.floor}}, Clock: 500}
		for _, turn := range known.turns {
			b = handDeed(t, b, advancing(500), changed(b, func(b *impl.Board) {
				b.Plans[0].Cursor = turn[1]
				b.Runs = minutes(known.floor, len(b.Runs)+turn[0])
			}), fmt.Sprint("made ", turn[0]))
			acceptBoard(t, b)
		}
	}
	// spans that have a run count, too: 38 lie ahead of the Floor, and two have one
	b := impl.Board{Plans: []impl.Plan{{Dag: every, Floor: 38}}, Runs: minutes(38, 2)}
	handDeed(t, b, advancing(500), changed(b, func(b *impl.Board) { b.Clock, b.Plans[0].Cursor = 500, 40 }), "made 0")
	// and 37 lie ahead of it, two have one, and one is made
	b = impl.Board{Plans: []impl.Plan{{Dag: every, Floor: 37}}, Runs: minutes(37, 2)}
	handDeed(t, b, advancing(500), changed(b, func(b *impl.Board) { b.Clock, b.Plans[0].Cursor, b.Runs = 500, 40, minutes(37, 3) }), "made 1")
	// each plan by itself has its 40
	other := named("bob", every)
	b = impl.Board{Plans: []impl.Plan{{Dag: every, Floor: 500}, {Dag: other, Floor: 700}}}
	handDeed(t, b, advancing(900), impl.Board{Plans: []impl.Plan{{Dag: every, Floor: 500, Cursor: 40}, {Dag: other, Floor: 700, Cursor: 40}}, Clock: 900}, "made 0")
	handDeed(t, b, advancing(39), impl.Board{Plans: []impl.Plan{{Dag: every, Floor: 500, Cursor: 39}, {Dag: other, Floor: 700, Cursor: 39}}, Clock: 39}, "made 0")
	// of the latest alone there is one
	once := dag("ann", "* * * * *", 0, 1000, false, one("a"))
	b = impl.Board{Plans: []impl.Plan{{Dag: once, Floor: 500}}}
	handDeed(t, b, advancing(150), impl.Board{Plans: []impl.Plan{{Dag: once, Floor: 500, Cursor: 150}}, Clock: 150}, "made 0")
}

// a run comes into its place among others
func TestAdvancePlaces(t *testing.T) {
	al, ann := hourly("al", 0, 600, true), hourly("ann", 0, 600, true)
	for have := range 1 << 3 {
		for _, other := range [][2]int{{0, 0}, {0, 1}, {2, 3}} {
			plans := plansOf(al, ann)
			plans[0].Paused = true
			var runs, want []impl.Run
			for _, from := range other {
				if r := hour(al, 60*from, 0); !slices.ContainsFunc(runs, func(o impl.Run) bool { return sameRun(o, r) }) {
					runs, want = append(runs, r), append(want, r)
				}
			}
			for at := range 3 {
				if have>>at&1 == 1 {
					runs = append(runs, hour(ann, 60*at, 0))
				}
				want = append(want, hour(ann, 60*at, 0))
			}
			b := boardOf(plans, runs...)
			handDeed(t, b, advancing(180), changed(b, func(b *impl.Board) {
				b.Clock, b.Plans[1].Cursor, b.Runs = 180, 180, want
			}), fmt.Sprint("made ", len(want)-len(runs)))
		}
	}
}

// at the end of time
func TestAdvanceLastMinutes(t *testing.T) {
	const last = 68374079
	for _, catchUp := range []bool{true, false} {
		ann := dag("ann", "* * * * *", last-3, last, catchUp, one("a"))
		b := impl.Board{Plans: plansOf(ann), Clock: last - 3}
		next, reply := lookAtDeed(t, b, advancing(last))
		count := map[bool]int{true: 3, false: 1}[catchUp]
		if reply != fmt.Sprint("made ", count) || next.Plans[0].Cursor != last || len(next.Runs) != count || next.Runs[count-1].Span != span(last-1, last) {
			t.Fatalf("%s, %q", tellBoard(next), reply)
		}
		acceptBoard(t, next)
		wantStays(t, next, advancing(last), "made 0")
		// past the last minute nothing is finished, and nothing more is made; the Clock is told all the same
		next.Runs[0].Tasks[0] = state(1, 0, 1, 5)
		for _, now := range []int{last + 1, last + 100, 1 << 32, math.MaxInt64} {
			handDeed(t, next, advancing(now), changed(next, func(b *impl.Board) { b.Clock = now }), "made 0")
		}
	}
}

func TestDrawnAdvances(t *testing.T) {
	d := draw(2016)
	told := map[string]int{}
	lost, moved := 0, 0
	for range 4000 {
		b := busyBoard(&d)
		next, reply := lookAtDeed(t, b, advancing(drawnTime(&d, b)))
		told[reply]++
		if len(next.Runs) < len(b.Runs) {
			lost++
		}
		for at, p := range next.Plans {
			if p.Cursor != b.Plans[at].Cursor && reply == "made 0" {
				moved++
			}
		}
	}
	if told["past"] < 200 || told["made 0"] < 500 || told["made 1"] < 200 || told["made 2"] < 50 || told["made 8"] < 50 || lost < 100 || moved < 50 {
		t.Errorf("replied is %v, %d lose a run, %d only move", told, lost, moved)
	}
}

// a minute that is near to something on the board
func drawnTime(d *draw, b impl.Board) int {
	times := []int{0, b.Clock, b.Clock, b.Clock + 1, b.Clock + d.below(10), b.Clock + d.below(60), b.Clock + d.below(600), 68374079}
	for _, p := range b.Plans {
		times = append(times, p.Dag.From, p.Dag.To, p.Cursor, p.Floor, p.Floor+d.below(300))
	}
	for _, r := range b.Runs {
		times = append(times, r.Span.From, r.Span.To)
		for _, s := range r.Tasks {
			if s.Is == 1 {
				times = append(times, s.Until, s.Until)
			}
		}
	}
	return max(0, min(68374079, times[d.below(len(times))]+[]int{0, 0, 0, -1, 1}[d.below(5)]))
}

func TestGrant(t *testing.T) {
	ann, bob := dagOf(task("a", "wide", 0, false), task("b", "one", 2, true, "a")), named("bob", dagOf(task("x", "wide", 1, false), task("y", "two", 0, false)))
	// nothing is due
	for _, b := range []impl.Board{
		{}, impl.BoardNew(), boardOf(plansOf(ann)), boardOf(plansOf(ann), hour(ann, 0, 2, 2)), boardOf(plansOf(ann), hour(ann, 0, 1, 0)), boardOf(plansOf(ann), hour(ann, 0, 3, 4)),
		boardOf([]impl.Plan{{Dag: ann, Paused: true}}, hour(ann, 0, 0, 0)), boardOf(plansOf(bob), hour(bob, 0, 1, 1), hour(bob, 60, 0, 0)),
	} {
		wantStays(t, b, granting(), "idle")
	}
	// one thing and several, over two plans; the token is the next one, and its worker may go on for 5 minutes
	for _, known := range []struct {
		runs []impl.Run
		k, i int
		told string
	}{
		{[]impl.Run{hour(ann, 60, 0, 0)}, 0, 0, "ann 60 a"},
		{[]impl.Run{hour(ann, 60, 2, 0)}, 0, 1, "ann 60 b"},
		{[]impl.Run{hour(ann, 0, 2, 1), hour(ann, 60, 0, 0)}, 1, 0, "ann 60 a"},
		{[]impl.Run{hour(ann, 0, 0, 0), hour(bob, 0, 0, 0)}, 0, 0, "ann 0 a"},
		{[]impl.Run{hour(ann, 60, 0, 0), hour(bob, 0, 0, 0)}, 1, 0, "bob 0 x"},
		{[]impl.Run{hour(ann, 60, 0, 0), hour(bob, 0, 1, 0)}, 1, 1, "bob 0 y"},
		{[]impl.Run{hour(ann, 60, 0, 0), hour(bob, 0, 1, 1)}, 0, 0, "ann 60 a"},
		{[]impl.Run{hour(ann, 60, 2, 0), hour(bob, 60, 0, 0)}, 0, 1, "ann 60 b"},
		{[]impl.Run{hour(ann, 0, 2, 3), hour(ann, 60, 2, 0), hour(ann, 540, 2, 2), hour(bob, 600, 2, 0)}, 3, 1, "bob 600 y"},
	} {
		for _, tokens := range []int{4, 5, 50, 123456, 999999989, 999999990} {
			for _, clock := range []int{0, 1, 100, 68374079} {
				b := boardOf(plansOf(ann, bob), known.runs...)
				b.Tokens, b.Clock = tokens, clock
				b.Runs[known.k].Tasks[known.i].Tries, b.Runs[known.k].Tasks[known.i].Until = 1, clock
				acceptBoard(t, b)
				then := handDeed(t, b, granting(), changed(b, func(b *impl.Board) {
					b.Tokens = tokens + 1
					b.Runs[known.k].Tasks[known.i] = state(1, 1, tokens+1, clock+5)
				}), fmt.Sprintf("lease %d %s", tokens+1, known.told))
				acceptBoard(t, then)
			}
		}
	}
	// one after the other, till nothing is due
	b := boardOf(plansOf(ann, bob), hour(ann, 0, 0, 0), hour(ann, 60, 0, 0), hour(ann, 120, 0, 0), hour(bob, 60, 0, 0), hour(bob, 120, 0, 0))
	for _, reply := range []string{"lease 51 ann 0 a", "lease 52 ann 60 a", "lease 53 bob 60 x", "lease 54 bob 60 y", "idle", "idle"} {
		next, said := lookAtDeed(t, b, granting())
		if said != reply {
			t.Fatalf("Grant(%s) is replied %q, not %q", tellBoard(b), said, reply)
		}
		b = next
		acceptBoard(t, b)
	}
	// by the words where the board would not be right
	b = boardOf(plansOf(ann), hour(ann, 60, 0, 0))
	for _, tokens := range []int{math.MinInt64, -5, -1, 0, 999999991, 1000000000, math.MaxInt64 - 1} {
		b.Tokens = tokens
		handDeed(t, b, granting(), changed(b, func(b *impl.Board) {
			b.Tokens = tokens + 1
			b.Runs[0].Tasks[0] = state(1, 0, tokens+1, 105)
		}), fmt.Sprintf("lease %d ann 60 a", tokens+1))
	}
}

// a board on which three tasks run, with the tokens 7, 8 and 9
func runningBoard() impl.Board {
	ann := dagOf(task("a", "two", 1, false), task("b", "wide", 0, false, "a"), task("c", "wide", 3, false))
	b := boardOf(plansOf(ann, named("bob", ann)), hour(ann, 0, 1, 0, 0), hour(ann, 60, 2, 1, 0), hour(named("bob", ann), 60, 2, 2, 1))
	b.Runs[0].Tasks[0] = state(1, 0, 7, 101)
	b.Runs[1].Tasks[1] = state(1, 1, 8, 100)
	b.Runs[2].Tasks[2] = state(1, 2, 9, 0)
	b.Runs[0].Epoch, b.Runs[2].Epoch = 4, 1000
	return b
}

// tokens that no task runs with
func staleTokens() []int {
	return []int{math.MinInt64, -8, -1, 0, 1, 6, 10, 50, 51, 1000000000, 1<<32 + 7, math.MaxInt64}
}

func TestBeat(t *testing.T) {
	b := runningBoard()
	acceptBoard(t, b)
	for _, clock := range []int{0, 1, 99, 100, 101, 68374079} {
		b.Clock = clock
		for token, place := range map[int][2]int{7: {0, 0}, 8: {1, 1}, 9: {2, 2}} {
			then := handDeed(t, b, beating(token), changed(b, func(b *impl.Board) { b.Runs[place[0]].Tasks[place[1]].Until = clock + 5 }), "ok")
			acceptBoard(t, then)
			wantStays(t, then, beating(token), "ok")
		}
		for _, token := range staleTokens() {
			wantStays(t, b, beating(token), "stale")
			wantStays(t, impl.Board{Clock: clock}, beating(token), "stale")
		}
	}
	// Paused or not
	b.Plans[0].Paused = true
	handDeed(t, b, beating(7), changed(b, func(b *impl.Board) { b.Runs[0].Tasks[0].Until = 68374084 }), "ok")
	// a token that stands beside what does not run is none
	for is := range 5 {
		odd := boardOf(plansOf(dagOf(one("a"))), hour(dagOf(one("a")), 0, is))
		odd.Runs[0].Tasks[0].Token = 30
		if is == 1 {
			handDeed(t, odd, beating(30), changed(odd, func(b *impl.Board) { b.Runs[0].Tasks[0].Until = 105 }), "ok")
		} else {
			wantStays(t, odd, beating(30), "stale")
			wantStays(t, odd, reporting(30, true), "stale")
		}
	}
}

func TestReport(t *testing.T) {
	b := runningBoard()
	for _, token := range staleTokens() {
		for _, good := range []bool{true, false} {
			wantStays(t, b, reporting(token, good), "stale")
			wantStays(t, impl.Board{}, reporting(token, good), "stale")
		}
	}
	// good, with the run's Epoch; what is behind it may go on
	for _, known := range []struct {
		token, k, i, tries int
		reply              string
	}{
		{7, 0, 0, 0, "done ann 0 a 4"}, {8, 1, 1, 1, "done ann 60 b 0"}, {9, 2, 2, 2, "done bob 60 c 1000"},
	} {
		then := handDeed(t, b, reporting(known.token, true), changed(b, func(b *impl.Board) { b.Runs[known.k].Tasks[known.i] = state(2, known.tries, 0, 0) }), known.reply)
		acceptBoard(t, then)
		// once it is told, its token is stale
		wantStays(t, then, reporting(known.token, true), "stale")
		wantStays(t, then, reporting(known.token, false), "stale")
		wantStays(t, then, beating(known.token), "stale")
	}
	// not good, with tries left and none
	for tries := range 5 {
		b := runningBoard()
		b.Runs[2].Tasks[2].Tries = tries
		want, reply := copyBoard(b), "retry"
		if tries < 3 {
			want.Runs[2].Tasks[2] = state(0, tries+1, 0, 100+[]int{2, 4, 8}[tries])
		} else {
			want.Runs[2].Tasks[2], reply = state(3, 4, 0, 0), "failed"
		}
		then := handDeed(t, b, reporting(9, false), want, reply)
		acceptBoard(t, then)
		wantStays(t, then, reporting(9, false), "stale")
		wantStays(t, then, beating(9), "stale")
	}
	handDeed(t, b, reporting(7, false), changed(b, func(b *impl.Board) { b.Runs[0].Tasks[0] = state(0, 1, 0, 102) }), "retry")
	b.Runs[0].Tasks[0].Tries = 1
	handDeed(t, b, reporting(7, false), changed(b, func(b *impl.Board) {
		b.Runs[0].Tasks[0], b.Runs[0].Tasks[1] = state(3, 2, 0, 0), state(4, 0, 0, 0)
	}), "failed")
	// nothing is swept by it
	over := boardOf(plansOf(dagOf(one("a"))), hour(dagOf(one("a")), 0, 2), hour(dagOf(one("a")), 60, 1))
	handDeed(t, over, reporting(1, true), changed(over, func(b *impl.Board) { b.Runs[1].Tasks[0] = state(2, 0, 0, 0) }), "done ann 60 a 0")
	// what can't be finished is stale: no plan, a run or a plan that is not right, a Clock that is none
	for _, wrong := range []impl.Board{
		changed(b, func(b *impl.Board) { b.Plans = b.Plans[1:] }),
		changed(b, func(b *impl.Board) { b.Runs[0].Tasks = b.Runs[0].Tasks[:1] }),
		changed(b, func(b *impl.Board) { b.Runs[0].Tasks[1].Is = 2 }),
		changed(b, func(b *impl.Board) { b.Plans[0].Dag.Cron = "" }),
		changed(b, func(b *impl.Board) { b.Clock = -1 }),
		changed(b, func(b *impl.Board) { b.Clock = 68374080 }),
	} {
		wantStays(t, wrong, reporting(7, true), "stale")
		wantStays(t, wrong, reporting(7, false), "stale")
	}
}

// a lease is good up to the minute ahead of its Until; a beat gives it new time
func TestLeases(t *testing.T) {
	for retries := range 3 {
		ann := dag("ann", "0 * * * *", 0, 0, true, task("a", "one", retries, false))
		for wait := range 8 {
			for beat := range wait + 1 {
				b := boardOf(plansOf(ann), hour(ann, 0, 0))
				b, _ = lookAtDeed(t, b, granting())
				b, _ = lookAtDeed(t, b, advancing(100+beat))
				b, beaten := lookAtDeed(t, b, beating(51))
				b, _ = lookAtDeed(t, b, advancing(100+wait))
				inTime := beat < 5 && wait < beat+5
				if (beaten == "ok") != (beat < 5) {
					t.Fatalf("a beat behind %d minutes is replied %q", beat, beaten)
				}
				if _, reply := lookAtDeed(t, b, beating(51)); (reply == "ok") != inTime || !inTime && reply != "stale" {
					t.Fatalf("a beat behind %d minutes, the last one behind %d, is replied %q", wait, beat, reply)
				}
				if _, reply := lookAtDeed(t, b, reporting(51, true)); (reply == "done ann 0 a 0") != inTime || !inTime && reply != "stale" {
					t.Fatalf("a report behind %d minutes, the last beat behind %d, is replied %q", wait, beat, reply)
				}
				if _, reply := lookAtDeed(t, b, reporting(51, false)); inTime && reply != map[bool]string{true: "retry", false: "failed"}[retries > 0] || !inTime && reply != "stale" {
					t.Fatalf("a report behind %d minutes, the last beat behind %d, is replied %q", wait, beat, reply)
				}
				// given away anew it has another token, and the old one stays stale
				later, _ := lookAtDeed(t, b, advancing(130))
				later, _ = lookAtDeed(t, later, advancing(150))
				again, reply := lookAtDeed(t, later, granting())
				if want := map[bool]string{true: "lease 52 ann 0 a", false: "idle"}[retries > 0]; reply != want {
					t.Fatalf("what was given away once is replied %q, not %q", reply, want)
				}
				wantStays(t, again, beating(51), "stale")
				wantStays(t, again, reporting(51, true), "stale")
				wantStays(t, again, reporting(51, false), "stale")
			}
		}
	}
}

func TestBackfillNone(t *testing.T) {
	for _, b := range []impl.Board{{}, impl.BoardNew(), fullBoard(), boardOf(nil, hour(handDag(), 0, 0, 0))} {
		for _, name := range []string{"", "a", "an", "annn", "ann ", "Ann", "zz", "\xff", longText(600)} {
			wantStays(t, b, filling(name, 0, 600), "none")
		}
	}
	wantStays(t, boardOf(nil, hour(handDag(), 0, 0, 0)), filling("ann", 0, 600), "none")
}

// from and upto in every order to the Floor, the Clock and To, with runs that are there already
func TestBackfillWindows(t *testing.T) {
	times := []int{0, 59, 60, 61, 120, 180, 200, 300}
	made := 0
	for at, window := range kindsOf(5, 0, len(times)-1) {
		from, upto, floor, clock, to := times[window[0]], times[window[1]], times[window[2]], times[window[3]], times[window[4]]
		ann := hourly("ann", 0, to, at%2 == 0)
		b := impl.Board{Plans: []impl.Plan{{Dag: ann, Paused: at%3 == 0, Cursor: times[at%len(times)], Floor: floor}}, Clock: clock, Tokens: 1}
		want := copyBoard(b)
		count := 0
		for hours := range 5 {
			there := at>>hours&3 == 3 && 60*hours >= floor
			lacks := 60*hours >= max(from, floor) && 60*hours+60 <= min(upto, clock, to)
			if there {
				b.Runs = append(b.Runs, hour(ann, 60*hours, 2))
				want.Runs = append(want.Runs, hour(ann, 60*hours, 2))
			} else if lacks {
				want.Runs = append(want.Runs, hour(ann, 60*hours, 0))
				count++
			}
		}
		acceptBoard(t, want)
		handDeed(t, b, filling("ann", from, upto), want, fmt.Sprint("made ", count))
		// nothing lacks then
		handDeed(t, want, filling("ann", from, upto), want, "made 0")
		made += count
	}
	if made < 600 {
		t.Errorf("%d runs are made", made)
	}
}

func TestBackfillEdges(t *testing.T) {
	ann := hourly("ann", 0, 68374079, false)
	b := impl.Board{Plans: []impl.Plan{{Dag: ann, Cursor: 68374080, Floor: 120}}, Clock: 240}
	for _, known := range []struct{ from, upto, first, count int }{
		{math.MinInt64, math.MaxInt64, 120, 2}, {-1, 68374080, 120, 2}, {0, 240, 120, 2}, {120, 240, 120, 2}, {121, 240, 180, 1}, {120, 239, 120, 1}, {120, 180, 120, 1}, {120, 179, 0, 0},
		{181, 240, 0, 0}, {180, 240, 180, 1}, {240, 120, 0, 0}, {math.MaxInt64, math.MinInt64, 0, 0}, {68374079, 68374079, 0, 0}, {68374080, 68374080, 0, 0}, {0, -1, 0, 0}, {math.MaxInt64, math.MaxInt64, 0, 0}, {math.MinInt64, math.MinInt64, 0, 0},
	} {
		handDeed(t, b, filling("ann", known.from, known.upto), changed(b, func(b *impl.Board) { b.Runs = hoursOf(ann, known.first, known.count) }), fmt.Sprint("made ", known.count))
	}
	// the runs of another plan with the same From are no matter, and those of this one come into their places
	bob := hourly("bob", 0, 600, true)
	both := boardOf(plansOf(ann, bob), hour(ann, 60, 0), hour(bob, 0, 0), hour(bob, 60, 0))
	both.Clock = 240
	handDeed(t, both, filling("ann", 0, 180), changed(both, func(b *impl.Board) {
		b.Runs = []impl.Run{hour(ann, 0, 0), hour(ann, 60, 0), hour(ann, 120, 0), hour(bob, 0, 0), hour(bob, 60, 0)}
	}), "made 2")
	handDeed(t, both, filling("bob", 0, 500), changed(both, func(b *impl.Board) { b.Runs = append(b.Runs, hour(bob, 120, 0), hour(bob, 180, 0)) }), "made 2")
	// the From of a run counts, and not its To
	odd := boardOf(plansOf(bob), impl.Run{Dag: "bob", Span: span(0, 10), Tasks: states(0)}, impl.Run{Dag: "bob", Span: span(30, 90), Tasks: states(0)})
	odd.Clock = 130
	handDeed(t, odd, filling("bob", 0, 500), changed(odd, func(b *impl.Board) { b.Runs = append(b.Runs, hour(bob, 60, 0)) }), "made 1")
	// what was made by hand is not made by the Clock, which only moves the Cursor
	filled, _ := lookAtDeed(t, impl.Board{Plans: plansOf(bob), Clock: 180}, filling("bob", 60, 180))
	handDeed(t, filled, advancing(240), changed(filled, func(b *impl.Board) {
		b.Clock, b.Plans[0].Cursor = 240, 240
		b.Runs = []impl.Run{hour(bob, 0, 0), hour(bob, 60, 0), hour(bob, 120, 0), hour(bob, 180, 0)}
	}), "made 2")
}

// MaxRuns met ahead of it and while runs are made, of more than 20 spans, too
func TestBackfillRoom(t *testing.T) {
	ann, bob := hourly("ann", 0, 68374079, true), hourly("bob", 0, 68374079, true)
	for count := range 9 {
		for _, hours := range []int{0, 1, 2, 7, 8, 9, 19, 20, 21, 22, 40, 100} {
			b := boardOf(plansOf(ann, bob), hoursOf(bob, 600, count)...)
			b.Clock = 60 * hours
			made := min(hours, 8-count)
			then := handDeed(t, b, filling("ann", 0, 68374079), changed(b, func(b *impl.Board) { b.Runs = append(hoursOf(ann, 0, made), b.Runs...) }), fmt.Sprint("made ", made))
			acceptBoard(t, then)
			// with a run of its own in some places, the others are filled in order
			for _, at := range []int{0, 1, 3, 6, 7, 8, 19, 20} {
				if count == 0 || at >= hours {
					continue
				}
				b := boardOf(plansOf(ann, bob), append([]impl.Run{hour(ann, 60*at, 2)}, hoursOf(bob, 600, count-1)...)...)
				b.Clock = 60 * hours
				next, reply := lookAtDeed(t, b, filling("ann", 0, 68374079))
				if want := min(hours-1, 8-count); reply != fmt.Sprint("made ", want) {
					t.Fatalf("Backfill(%s) is replied %q, not %d", tellBoard(b), reply, want)
				}
				acceptBoard(t, next)
			}
		}
	}
}

func TestClear(t *testing.T) {
	d := diamond()
	b := boardOf(plansOf(d, named("zed", d)), hour(d, 0, 2, 2, 3, 4), hour(d, 60, 2, 1, 2, 0), hour(d, 120, 3, 4, 4, 4))
	for k := range b.Runs {
		b.Runs[k].Epoch, b.Runs[k].Tasks[0].Tries, b.Runs[k].Tasks[0].Until = k, 1, 9
	}
	acceptBoard(t, b)
	// a run, a plan and a task that are none
	for _, name := range []string{"", "an", "annn", "Ann", "zed", "bob", "\xff", longText(600)} {
		wantStays(t, b, clearing(name, 0, "a"), "none")
	}
	for _, from := range []int{math.MinInt64, -60, -1, 1, 59, 61, 180, 68374079, 1 << 32, 1<<32 + 60, math.MaxInt64} {
		wantStays(t, b, clearing("ann", from, "a"), "none")
	}
	for _, name := range []string{"", "e", "A", "ann", "a ", "aa", "one", "\x00", longText(600)} {
		wantStays(t, b, clearing("ann", 0, name), "none")
	}
	wantStays(t, impl.Board{}, clearing("ann", 0, "a"), "none")
	wantStays(t, changed(b, func(b *impl.Board) { b.Plans = b.Plans[1:] }), clearing("ann", 0, "a"), "none")
	wantStays(t, changed(b, func(b *impl.Board) { b.Runs = nil }), clearing("ann", 0, "a"), "none")
	// what may be cleared and what may not; the Epoch is one more
	look := func(from int, name string, kinds ...int) {
		t.Helper()
		want := changed(b, func(b *impl.Board) {
			r := &b.Runs[from/60]
			for i, is := range kinds {
				if is != r.Tasks[i].Is || name == "a" {
					r.Tasks[i] = states(is)[0]
				}
			}
			r.Epoch++
		})
		handDeed(t, b, clearing("ann", from, name), want, "cleared")
		acceptBoard(t, want)
	}
	look(0, "a", 0, 0, 0, 0)
	look(0, "b", 2, 0, 3, 4)
	look(0, "c", 2, 2, 0, 0)
	look(60, "c", 2, 1, 0, 0)
	look(60, "d", 2, 1, 2, 0)
	look(120, "a", 0, 0, 0, 0)
	// one that is behind what is failed, that runs, or behind which one runs
	wantStays(t, b, clearing("ann", 0, "d"), "none")
	wantStays(t, b, clearing("ann", 60, "a"), "none")
	wantStays(t, b, clearing("ann", 60, "b"), "none")
	for _, name := range []string{"b", "c", "d"} {
		wantStays(t, b, clearing("ann", 120, name), "none")
	}
	// Paused or not, and up to the last Epoch
	b.Plans[0].Paused, b.Runs[0].Epoch = true, 999
	look(0, "a", 0, 0, 0, 0)
	b.Runs[0].Epoch = 1000
	wantStays(t, b, clearing("ann", 0, "a"), "none")
	// a run and a plan that are not right
	b.Runs[0].Epoch = 1001
	wantStays(t, b, clearing("ann", 0, "a"), "none")
	b.Runs[0].Epoch, b.Plans[0].Dag.Name = 0, "Ann"
	wantStays(t, b, clearing("ann", 0, "a"), "none")
}

// what is drawn is near to what is on the board
func drawnDeed(d *draw, b impl.Board) deed {
	switch d.below(9) {
	case 0:
		return submitting(drawnSubmission(d))
	case 1, 2:
		return advancing(drawnTime(d, b))
	case 3:
		return granting()
	case 4:
		return beating(drawnToken(d, b))
	case 5:
		return reporting(drawnToken(d, b), d.below(2) == 0)
	case 6:
		return filling(drawnPlanName(d, b), drawnTime(d, b), drawnTime(d, b))
	case 7:
		name, from, task := drawnPlace(d, b)
		return clearing(name, from, task)
	}
	return performing([]int{1, 399999, 400000, 1 + d.below(400000)}[d.below(4)], drawnCommand(d, b))
}

// most often that of a task that runs
func drawnToken(d *draw, b impl.Board) int {
	list := []int{0, b.Tokens, min(b.Tokens+1, 1000000000), d.below(1000000001)}
	for _, r := range b.Runs {
		for _, s := range r.Tasks {
			if s.Is == 1 {
				list = append(list, s.Token, s.Token, s.Token, s.Token)
			}
		}
	}
	return list[d.below(len(list))]
}

func drawnPlanName(d *draw, b impl.Board) string {
	if len(b.Plans) == 0 || d.below(8) == 0 {
		return drawnName(d)
	}
	return b.Plans[d.below(len(b.Plans))].Dag.Name
}

// the plan, the From and the task of a run, or of none
func drawnPlace(d *draw, b impl.Board) (string, int, string) {
	if len(b.Runs) == 0 || d.below(8) == 0 {
		return drawnPlanName(d, b), drawnTime(d, b), drawnName(d)
	}
	r := b.Runs[d.below(len(b.Runs))]
	tasks := b.Plans[plainPlanAt(b, r.Dag)].Dag.Tasks
	return r.Dag, r.Span.From, tasks[d.below(len(tasks))].Name
}

// a right command, most often the next one of a session
func drawnCommand(d *draw, b impl.Board) impl.Command {
	if d.below(12) == 0 {
		return impl.Command{Op: 1}
	}
	x := impl.Command{Token: d.below(1000001), Seq: d.below(4)}
	if len(b.Sessions) > 0 && d.below(12) > 0 {
		s := b.Sessions[d.below(len(b.Sessions))]
		x.Token = s.Token
		x.Seq = max(0, min(1000000, s.Last+[]int{-1, 0, 1, 1, 1, 1, 1, 1, 1, 1, 2}[d.below(11)]))
	}
	return drawnWork(d, b, x)
}

// a right command of this Token and Seq
func drawnWork(d *draw, b impl.Board, x impl.Command) impl.Command {
	switch x.Op = 2 + d.below(8); x.Op {
	case 2:
		x.Text = drawnSubmission(d)
		x.Text = x.Text[:min(600, len(x.Text))]
	case 3:
		x.Text, x.Yes = drawnPlanName(d, b), d.below(2) == 0
	case 4:
		x.Num = drawnTime(d, b)
	case 6:
		x.Num = drawnToken(d, b)
	case 7:
		x.Num, x.Yes = drawnToken(d, b), d.below(2) == 0
	case 8:
		x.Text, x.Num, x.To = drawnPlanName(d, b), drawnTime(d, b), drawnTime(d, b)
	case 9:
		x.Text, x.Num, x.Task = drawnPlace(d, b)
	}
	return x
}

func TestDrawnDeeds(t *testing.T) {
	d := draw(3016)
	told := map[string]int{}
	for range 12000 {
		b := busyBoard(&d)
		_, reply := lookAtDeed(t, b, drawnDeed(&d, b))
		told[strings.Fields(reply + " -")[0]]++
	}
	for _, word := range strings.Fields("plan there full fault past made lease idle ok stale done retry failed none cleared set open gap old") {
		if told[word] < 8 {
			t.Errorf("%q is replied %d times: %v", word, told[word], told)
		}
	}
}

// a right board with these sessions, on which something is due, runs, lacks and may be cleared
func askedBoard(sessions ...impl.Session) impl.Board {
	ann := dag("ann", "0 * * * *", 0, 600, true, task("a", "one", 1, false), task("b", "two", 0, false, "a"))
	b := boardOf(plansOf(ann), hour(ann, 0, 2, 3), hour(ann, 120, 1, 0), hour(ann, 180, 2, 0))
	b.Runs[1].Tasks[0].Until = 253
	b.Plans[0].Cursor = 240
	b.Clock, b.Tokens, b.Sessions = 250, 50, sessions
	return b
}

// a right command of each Op but OpOpen that changes such a board, and what is replied
func askedWork() map[string]impl.Command {
	return map[string]impl.Command{
		"plan":               {Op: 2, Text: plainDagText(named("bob", handDag()))},
		"set":                {Op: 3, Text: "ann", Yes: true},
		"made 2":             {Op: 4, Num: 360},
		"lease 51 ann 180 b": {Op: 5},
		"ok":                 {Op: 6, Num: 1},
		"done ann 120 a 0":   {Op: 7, Num: 1, Yes: true},
		"retry":              {Op: 7, Num: 1},
		"made 1":             {Op: 8, Text: "ann", Num: 60, To: 600},
		"cleared":            {Op: 9, Text: "ann", Num: 0, Task: "b"},
	}
}

func TestPerformRefuses(t *testing.T) {
	right := askedBoard(session(5, 1, "ok"))
	acceptBoard(t, right)
	refuse := func(b impl.Board, index int, x impl.Command) {
		t.Helper()
		handDeed(t, b, performing(index, x), impl.Board{}, refusal)
	}
	take := impl.Command{Op: 5, Token: 5, Seq: 2}
	for _, x := range []impl.Command{take, {Op: 1}, {Op: 5, Token: 6, Seq: 1}, {Op: 5, Token: 5, Seq: 1}, {Op: 5, Token: 5, Seq: 9}} {
		for _, index := range []int{math.MinInt64, -400000, -1, 0, 400001, 400002, 1000000, 1<<32 + 1, math.MaxInt64} {
			refuse(right, index, x)
		}
		for _, index := range []int{1, 2, 399999, 400000} {
			if _, reply := lookAtDeed(t, right, performing(index, x)); strings.HasPrefix(reply, refusal) {
				t.Fatalf("%+v at %d is refused", x, index)
			}
		}
		// a board that is not right in any of its parts
		for _, change := range []func(b *impl.Board){
			func(b *impl.Board) { b.Clock = -1 }, func(b *impl.Board) { b.Clock = 68374080 },
			func(b *impl.Board) { b.Tokens = -1 }, func(b *impl.Board) { b.Tokens = 0 }, func(b *impl.Board) { b.Tokens = 999999992 },
			func(b *impl.Board) { b.Sessions[0].Token = 0 }, func(b *impl.Board) { b.Sessions[0].Reply = longText(61) },
			func(b *impl.Board) { b.Sessions = append(b.Sessions, session(5, 0, "")) },
			func(b *impl.Board) { b.Sessions = append(b.Sessions, session(6, 0, "x")) },
			func(b *impl.Board) {
				b.Sessions = append(b.Sessions, session(6, 0, ""), session(7, 0, ""), session(8, 0, ""))
			},
			func(b *impl.Board) { b.Plans[0].Floor = 1 }, func(b *impl.Board) { b.Plans[0].Cursor = 68374081 },
			func(b *impl.Board) { b.Plans = nil }, func(b *impl.Board) { b.Plans = append(b.Plans, b.Plans[0]) },
			func(b *impl.Board) { b.Plans[0].Dag.Cron = "*/60 * * * *" },
			func(b *impl.Board) { b.Runs[0], b.Runs[1] = b.Runs[1], b.Runs[0] },
			func(b *impl.Board) { b.Runs = append(b.Runs, hoursOf(b.Plans[0].Dag, 240, 6)...) },
			func(b *impl.Board) { b.Runs[1].Tasks[1] = state(1, 0, 2, 0) },
		} {
			b := changed(right, change)
			refuseBoard(t, b)
			refuse(b, 7, x)
		}
	}
	// a command that is not right
	for _, x := range []impl.Command{
		{}, {Op: 10, Token: 5, Seq: 2}, {Op: -1, Token: 5, Seq: 2}, {Op: 1, Token: 5}, {Op: 1, Seq: 2}, {Op: 5, Token: -1, Seq: 2}, {Op: 5, Token: 5, Seq: -1}, {Op: 5, Token: 1000001, Seq: 2}, {Op: 5, Token: 5, Seq: 1000001},
		{Op: 2, Token: 5, Seq: 2, Text: longText(601)}, {Op: 3, Token: 5, Seq: 2, Text: "Ann"}, {Op: 4, Token: 5, Seq: 2, Num: 68374080}, {Op: 4, Token: 5, Seq: 2, Num: -1}, {Op: 5, Token: 5, Seq: 2, Num: 1}, {Op: 6, Token: 5, Seq: 2, Num: 1000000001},
		{Op: 7, Token: 5, Seq: 2, Num: -1}, {Op: 8, Token: 5, Seq: 2, Text: "ann", To: 68374080}, {Op: 8, Token: 5, Seq: 2}, {Op: 9, Token: 5, Seq: 2, Text: "ann"}, {Op: 9, Token: 5, Seq: 2, Text: "ann", Task: "a", To: 1},
	} {
		wantCommandOk(t, x, false)
		refuse(right, 7, x)
	}
}

func TestPerformOpen(t *testing.T) {
	open := impl.Command{Op: 1}
	for _, known := range []struct {
		have  []int
		index int
		want  []int
	}{
		{nil, 1, []int{1}}, {nil, 400000, []int{400000}},
		// ahead, between and behind
		{[]int{5}, 9, []int{5, 9}}, {[]int{5}, 4, []int{4, 5}}, {[]int{5}, 6, []int{5, 6}}, {[]int{1000000}, 400000, []int{400000, 1000000}},
		{[]int{5, 7}, 9, []int{5, 7, 9}}, {[]int{5, 7}, 6, []int{5, 6, 7}}, {[]int{5, 7}, 1, []int{1, 5, 7}},
		// a fourth one: the least Token goes, whichever that is
		{[]int{5, 7, 9}, 10, []int{7, 9, 10}}, {[]int{5, 7, 9}, 8, []int{7, 8, 9}}, {[]int{5, 7, 9}, 6, []int{6, 7, 9}}, {[]int{5, 7, 9}, 400000, []int{7, 9, 400000}}, {[]int{5, 7, 9}, 4, []int{5, 7, 9}}, {[]int{5, 7, 9}, 1, []int{5, 7, 9}},
	} {
		var sessions []impl.Session
		for at, token := range known.have {
			sessions = append(sessions, session(token, 1+at, fmt.Sprint("reply ", token)))
		}
		b := askedBoard(sessions...)
		want := changed(b, func(b *impl.Board) {
			b.Sessions = nil
			for _, token := range known.want {
				if at := slices.Index(known.have, token); at >= 0 {
					b.Sessions = append(b.Sessions, sessions[at])
				} else {
					b.Sessions = append(b.Sessions, session(token, 0, ""))
				}
			}
		})
		handDeed(t, b, performing(known.index, open), want, fmt.Sprint("open ", known.index))
		acceptBoard(t, want)
	}
	// a session of this Token begins anew, and no other one is gone for it
	for _, have := range [][]impl.Session{
		{session(5, 3, "x")}, {session(5, 0, "")}, {session(4, 0, ""), session(5, 1, "x")}, {session(5, 1, "x"), session(9, 0, "")},
		{session(3, 0, ""), session(5, 1, "x"), session(9, 2, "")}, {session(3, 0, ""), session(4, 1, "x"), session(5, 2, "")}, {session(5, 1, "x"), session(7, 1, "x"), session(9, 2, "")},
	} {
		b := askedBoard(have...)
		at := slices.IndexFunc(have, func(s impl.Session) bool { return s.Token == 5 })
		then := handDeed(t, b, performing(5, open), changed(b, func(b *impl.Board) { b.Sessions[at] = session(5, 0, "") }), "open 5")
		acceptBoard(t, then)
		wantStays(t, then, performing(5, open), "open 5")
		// what was asked of the old one may be asked of the new one from 1 on
		wantStays(t, then, performing(6, impl.Command{Op: 4, Token: 5, Seq: 0, Num: 0}), "old")
		wantStays(t, then, performing(6, impl.Command{Op: 4, Token: 5, Seq: 2, Num: 0}), "gap")
		handDeed(t, then, performing(6, impl.Command{Op: 4, Token: 5, Seq: 1, Num: 0}), changed(then, func(b *impl.Board) { b.Sessions[at] = session(5, 1, "past") }), "past")
	}
	// what is opened may ask from 1 on
	b := impl.BoardNew()
	for index := 1; index <= 6; index++ {
		b, _ = lookAtDeed(t, b, performing(10*index, open))
		wantStays(t, b, performing(500, impl.Command{Op: 5, Token: 10 * index, Seq: 0}), "old")
		wantStays(t, b, performing(500, impl.Command{Op: 5, Token: 10 * index, Seq: 2}), "gap")
		at := len(b.Sessions) - 1
		handDeed(t, b, performing(500, impl.Command{Op: 5, Token: 10 * index, Seq: 1}), changed(b, func(b *impl.Board) { b.Sessions[at] = session(10*index, 1, "idle") }), "idle")
		if index > 3 {
			wantStays(t, b, performing(500, impl.Command{Op: 5, Token: 10 * (index - 3), Seq: 1}), "none")
		}
	}
}

// at each Token that a board has, next to it, and wherever none is
func TestDrawnOpens(t *testing.T) {
	open := impl.Command{Op: 1}
	d := draw(14016)
	again, fresh, refused := [4]int{}, [4]int{}, 0
	for range 1500 {
		b := drawnBoard(&d)
		count := len(b.Sessions)
		var indexes []int
		for at, s := range b.Sessions {
			indexes = append(indexes, s.Token-1, s.Token+1, 1+d.below(400000))
			if s.Token > 400000 {
				handDeed(t, b, performing(s.Token, open), impl.Board{}, refusal)
				refused++
				continue
			}
			then := handDeed(t, b, performing(s.Token, open), changed(b, func(b *impl.Board) { b.Sessions[at] = session(s.Token, 0, "") }), fmt.Sprint("open ", s.Token))
			acceptBoard(t, then)
			again[count]++
		}
		for _, index := range append(indexes, 1, 2, 399999, 400000) {
			taken := slices.ContainsFunc(b.Sessions, func(s impl.Session) bool { return s.Token == index })
			if taken || index < 1 || index > 400000 {
				continue
			}
			then := handDeed(t, b, performing(index, open), changed(b, func(b *impl.Board) {
				place := 0
				for place < count && b.Sessions[place].Token < index {
					place++
				}
				b.Sessions = slices.Insert(b.Sessions, place, session(index, 0, ""))
				b.Sessions = b.Sessions[max(0, count-2):]
			}), fmt.Sprint("open ", index))
			acceptBoard(t, then)
			fresh[count]++
		}
	}
	if slices.Min(again[1:]) < 200 || slices.Min(fresh[:]) < 500 || refused < 20 {
		t.Errorf("with none, one, two and three sessions %v are opened again and %v anew, %d are refused", again, fresh, refused)
	}
}

// without a session nothing is done, whichever command it is
func TestPerformWithoutASession(t *testing.T) {
	for _, sessions := range [][]impl.Session{nil, {session(5, 1, "x")}, {session(5, 1, "x"), session(7, 0, ""), session(9, 1000000, "y")}} {
		b := askedBoard(sessions...)
		for _, x := range askedWork() {
			for _, token := range []int{0, 1, 4, 6, 8, 10, 999999, 1000000} {
				for _, seq := range []int{0, 1, 2, 3, 1000000} {
					x.Token, x.Seq = token, seq
					wantStays(t, b, performing(7, x), "none")
				}
			}
		}
	}
}

// Seq below, at and above what was asked last
func TestPerformSeq(t *testing.T) {
	for _, last := range []int{0, 1, 2, 3, 17, 999998, 999999, 1000000} {
		for _, kept := range []string{"", "kept", "full", longText(60)} {
			if last == 0 && kept != "" {
				continue
			}
			for place := range 3 {
				sessions := []impl.Session{session(4, 1, "four"), session(6, 2, "six"), session(8, 0, "")}
				token := sessions[place].Token
				sessions[place] = session(token, last, kept)
				b := askedBoard(sessions...)
				acceptBoard(t, b)
				for reply, x := range askedWork() {
					for _, seq := range []int{0, 1, 2, last - 2, last - 1, last, last + 1, last + 2, last + 3, 2*last + 1, 999999, 1000000} {
						if seq < 0 || seq > 1000000 {
							continue
						}
						x.Token, x.Seq = token, seq
						asked := performing(9, x)
						switch {
						case seq == 0 || seq < last:
							wantStays(t, b, asked, "old")
						case seq == last:
							wantStays(t, b, asked, kept)
						case seq > last+1:
							wantStays(t, b, asked, "gap")
						default:
							// what the command does, and what is kept of it
							next, _ := plainDone(b, x)
							next.Sessions[place] = session(token, seq, reply)
							handDeed(t, b, asked, next, reply)
							// asked again, at any index, it changes nothing, and is replied the same
							for _, index := range []int{9, 10, 400000} {
								wantStays(t, next, performing(index, x), reply)
							}
						}
					}
				}
			}
		}
	}
}

func TestPerformPause(t *testing.T) {
	ann, bob := handDag(), named("bob", diamond())
	for paused := range 4 {
		b := boardOf(plansOf(ann, bob), hour(ann, 0, 2, 0))
		b.Plans[0].Paused, b.Plans[1].Paused = paused&1 == 1, paused&2 == 2
		b.Sessions = []impl.Session{session(3, 0, "")}
		for _, yes := range []bool{true, false} {
			for at, name := range []string{"ann", "bob"} {
				handDeed(t, b, performing(9, impl.Command{Op: 3, Token: 3, Seq: 1, Text: name, Yes: yes}), changed(b, func(b *impl.Board) {
					b.Plans[at].Paused = yes
					b.Sessions[0] = session(3, 1, "set")
				}), "set")
			}
			for _, name := range []string{"a", "an", "annn", "b", "zed"} {
				handDeed(t, b, performing(9, impl.Command{Op: 3, Token: 3, Seq: 1, Text: name, Yes: yes}), changed(b, func(b *impl.Board) { b.Sessions[0] = session(3, 1, "none") }), "none")
			}
		}
	}
}

// each Op does what its function does, and what it replies is kept
func TestPerformDoesWhatItsFunctionDoes(t *testing.T) {
	d := draw(4016)
	counts := [10]int{}
	for range 3000 {
		b := busyBoard(&d)
		b.Sessions = []impl.Session{session(2, 6, "two"), session(3, 0, "")}
		x := drawnWork(&d, b, impl.Command{Token: 3, Seq: 1})
		var next impl.Board
		var reply string
		switch x.Op {
		case 2:
			next, reply = impl.Submit(b, x.Text)
		case 3:
			next, reply = plainPause(b, x.Text, x.Yes)
		case 4:
			next, reply = impl.Advance(b, x.Num)
		case 5:
			next, reply = impl.Grant(b)
		case 6:
			next, reply = impl.Beat(b, x.Num)
		case 7:
			next, reply = impl.Report(b, x.Num, x.Yes)
		case 8:
			next, reply = impl.Backfill(b, x.Text, x.Num, x.To)
		case 9:
			next, reply = impl.Clear(b, x.Text, x.Num, x.Task)
		}
		if !impl.BoardOk(next) {
			next, reply = b, "full"
		}
		next = changed(next, func(b *impl.Board) { b.Sessions[1] = session(3, 1, reply) })
		wantDeed(t, b, performing(77, x), next, reply)
		counts[x.Op]++
	}
	if slices.Min(counts[2:]) < 200 {
		t.Errorf("the Ops are asked %v times", counts)
	}
}

// what would make a board that is not right: it stays but for the session, and is replied full
func TestPerformFull(t *testing.T) {
	look := func(b impl.Board, x impl.Command) {
		t.Helper()
		x.Token, x.Seq = 3, 6
		b.Sessions = []impl.Session{session(2, 1, "two"), session(3, 5, "kept")}
		acceptBoard(t, b)
		next, _ := plainDone(b, x)
		refuseBoard(t, next)
		then := handDeed(t, b, performing(9, x), changed(b, func(b *impl.Board) { b.Sessions[1] = session(3, 6, "full") }), "full")
		acceptBoard(t, then)
		wantStays(t, then, performing(10, x), "full")
		// the next command finds the board as it was
		handDeed(t, then, performing(11, impl.Command{Op: 3, Token: 3, Seq: 7, Text: "zed"}), changed(then, func(b *impl.Board) { b.Sessions[1] = session(3, 7, "none") }), "none")
	}
	// all tokens are given away
	ann := hourly("ann", 0, 600, true)
	b := boardOf(plansOf(ann), hour(ann, 0, 0))
	b.Tokens = 999999991
	look(b, impl.Command{Op: 5})
	// the last one that there is
	b.Tokens, b.Sessions = 999999990, []impl.Session{session(3, 5, "kept")}
	handDeed(t, b, performing(9, impl.Command{Op: 5, Token: 3, Seq: 6}), changed(b, func(b *impl.Board) {
		b.Tokens, b.Runs[0].Tasks[0] = 999999991, state(1, 0, 999999991, 105)
		b.Sessions[0] = session(3, 6, "lease 999999991 ann 0 a")
	}), "lease 999999991 ann 0 a")
	// where nothing is due it is idle all the same
	b.Tokens, b.Runs = 999999991, nil
	handDeed(t, b, performing(9, impl.Command{Op: 5, Token: 3, Seq: 6}), changed(b, func(b *impl.Board) { b.Sessions[0] = session(3, 6, "idle") }), "idle")
	// spans that reach into one another: to sweep the first run lifts the Floor above the next one
	long := hour(ann, 0, 2)
	long.Span.To = 100
	look(boardOf(plansOf(ann), long, hour(ann, 60, 3)), impl.Command{Op: 4, Num: 100})
	look(boardOf(plansOf(ann), long, hour(ann, 60, 3), hour(ann, 120, 0)), impl.Command{Op: 4, Num: 500})
	// by a lease that is over
	running := hour(ann, 60, 1)
	running.Tasks[0] = state(1, 0, 7, 104)
	b = boardOf(plansOf(ann), long, running)
	b.Runs[1].Tasks[0] = state(1, 0, 7, 104)
	look(b, impl.Command{Op: 4, Num: 104})
	b.Plans[0].Cursor, b.Sessions = 600, []impl.Session{session(3, 5, "kept")}
	handDeed(t, b, performing(9, impl.Command{Op: 4, Token: 3, Seq: 6, Num: 103}), changed(b, func(b *impl.Board) { b.Clock, b.Sessions[0] = 103, session(3, 6, "made 0") }), "made 0")
	// a third plan is no such thing, though it is replied the same
	b = boardOf(plansOf(ann, hourly("bob", 0, 600, true)))
	b.Sessions = []impl.Session{session(3, 5, "kept")}
	handDeed(t, b, performing(9, impl.Command{Op: 2, Token: 3, Seq: 6, Text: textOf("dag cid", "cron 0 * * * *", "from 0", "to 0", "latest", "task a one 0 free")}), changed(b, func(b *impl.Board) { b.Sessions[0] = session(3, 6, "full") }), "full")
}

// a command, and what is replied to it
type lifeStep struct {
	x     impl.Command
	reply string
}

// a whole life by hand, by two sessions, from the index 1 on
func lifeSteps() []lifeStep {
	plan := textOf("dag ann", "cron 0 * * * *", "from 0", "to 300", "catchup", "task a one 1 free", "task b two 0 past a")
	return []lifeStep{
		{impl.Command{Op: 1}, "open 1"},
		{impl.Command{Op: 1}, "open 2"},
		{impl.Command{Op: 2, Token: 1, Seq: 1, Text: "dag ann\n"}, "fault 2"},
		{impl.Command{Op: 2, Token: 1, Seq: 2, Text: plan}, "plan"},
		{impl.Command{Op: 2, Token: 1, Seq: 2, Text: plan}, "plan"},
		{impl.Command{Op: 2, Token: 1, Seq: 3, Text: plan}, "there"},
		{impl.Command{Op: 5, Token: 2, Seq: 1}, "idle"},
		{impl.Command{Op: 4, Token: 1, Seq: 4, Num: 130}, "made 2"},
		{impl.Command{Op: 4, Token: 1, Seq: 5, Num: 129}, "past"},
		{impl.Command{Op: 5, Token: 2, Seq: 2}, "lease 2 ann 0 a"},
		{impl.Command{Op: 5, Token: 2, Seq: 2}, "lease 2 ann 0 a"},
		{impl.Command{Op: 5, Token: 1, Seq: 6}, "idle"},
		{impl.Command{Op: 4, Token: 1, Seq: 7, Num: 134}, "made 0"},
		{impl.Command{Op: 6, Token: 2, Seq: 3, Num: 2}, "ok"},
		{impl.Command{Op: 4, Token: 1, Seq: 8, Num: 138}, "made 0"},
		{impl.Command{Op: 7, Token: 2, Seq: 4, Num: 2}, "retry"},
		{impl.Command{Op: 7, Token: 2, Seq: 5, Num: 2, Yes: true}, "stale"},
		// a of the next hour is due, as a of the first one waits till 140
		{impl.Command{Op: 5, Token: 2, Seq: 6}, "lease 3 ann 60 a"},
		{impl.Command{Op: 7, Token: 2, Seq: 7, Num: 3, Yes: true}, "done ann 60 a 0"},
		{impl.Command{Op: 4, Token: 1, Seq: 9, Num: 140}, "made 0"},
		{impl.Command{Op: 5, Token: 2, Seq: 8}, "lease 4 ann 0 a"},
		{impl.Command{Op: 4, Token: 1, Seq: 10, Num: 145}, "made 0"},
		{impl.Command{Op: 6, Token: 2, Seq: 9, Num: 4}, "stale"},
		{impl.Command{Op: 7, Token: 2, Seq: 10, Num: 4, Yes: true}, "stale"},
		// a is failed by then, b blocked, and b of the next hour waits for it
		{impl.Command{Op: 5, Token: 2, Seq: 11}, "idle"},
		{impl.Command{Op: 9, Token: 1, Seq: 11, Text: "ann", Num: 0, Task: "b"}, "none"},
		{impl.Command{Op: 9, Token: 1, Seq: 12, Text: "ann", Num: 0, Task: "a"}, "cleared"},
		{impl.Command{Op: 9, Token: 1, Seq: 12, Text: "ann", Num: 0, Task: "a"}, "cleared"},
		{impl.Command{Op: 3, Token: 1, Seq: 13, Text: "ann", Yes: true}, "set"},
		{impl.Command{Op: 5, Token: 2, Seq: 12}, "idle"},
		{impl.Command{Op: 3, Token: 1, Seq: 14, Text: "ann"}, "set"},
		{impl.Command{Op: 5, Token: 2, Seq: 12}, "idle"},
		{impl.Command{Op: 5, Token: 2, Seq: 13}, "lease 5 ann 0 a"},
		{impl.Command{Op: 7, Token: 2, Seq: 14, Num: 5, Yes: true}, "done ann 0 a 1"},
		{impl.Command{Op: 5, Token: 2, Seq: 15}, "lease 6 ann 0 b"},
		{impl.Command{Op: 7, Token: 2, Seq: 16, Num: 6, Yes: true}, "done ann 0 b 1"},
		{impl.Command{Op: 5, Token: 2, Seq: 17}, "lease 7 ann 60 b"},
		{impl.Command{Op: 7, Token: 2, Seq: 18, Num: 7}, "failed"},
		// the first hour is gone by the next turn of the Clock, and nothing brings it back
		{impl.Command{Op: 4, Token: 1, Seq: 15, Num: 179}, "made 0"},
		{impl.Command{Op: 9, Token: 1, Seq: 16, Text: "ann", Num: 0, Task: "a"}, "none"},
		{impl.Command{Op: 8, Token: 1, Seq: 17, Text: "ann", Num: 0, To: 600}, "made 0"},
		{impl.Command{Op: 3, Token: 1, Seq: 18, Text: "ann", Yes: true}, "set"},
		{impl.Command{Op: 4, Token: 1, Seq: 19, Num: 400}, "made 0"},
		{impl.Command{Op: 8, Token: 1, Seq: 20, Text: "ann", Num: 0, To: 299}, "made 2"},
		{impl.Command{Op: 3, Token: 1, Seq: 21, Text: "ann"}, "set"},
		{impl.Command{Op: 4, Token: 1, Seq: 22, Num: 400}, "made 1"},
		{impl.Command{Op: 4, Token: 1, Seq: 23, Num: 68374079}, "made 0"},
		{impl.Command{Op: 4, Token: 1, Seq: 22, Num: 400}, "old"},
		{impl.Command{Op: 4, Token: 1, Seq: 25, Num: 400}, "gap"},
		{impl.Command{Op: 4, Token: 3, Seq: 1, Num: 400}, "none"},
		{impl.Command{Op: 1}, "open 51"},
		{impl.Command{Op: 1}, "open 52"},
		{impl.Command{Op: 5, Token: 1, Seq: 23}, "none"},
		{impl.Command{Op: 5, Token: 2, Seq: 18}, "failed"},
	}
}

func TestALifeByCommands(t *testing.T) {
	b := impl.BoardNew()
	for at, step := range lifeSteps() {
		next, reply := lookAtDeed(t, b, performing(at+1, step.x))
		if reply != step.reply {
			t.Fatalf("number %d, %+v, is replied %q, not %q, on %s", at+1, step.x, reply, step.reply, tellBoard(b))
		}
		b = next
		acceptBoard(t, b)
	}
	if p := b.Plans[0]; p.Floor != 60 || p.Cursor != 300 || len(b.Runs) != 4 || b.Tokens != 7 || b.Clock != 68374079 {
		t.Errorf("in the end it is %s", tellBoard(b))
	}
}

// a command in bytes, as the next chapter has it, whether it is right or not
func commandData(x impl.Command) string { return commandPieces(x).text() }

func wantFold(t *testing.T, b impl.Board, list []impl.Entry, index int, want impl.Board, replies ...string) {
	t.Helper()
	if got, said := impl.Fold(b, list, index); !sameBoard(got, want) || !slices.Equal(said, replies) {
		t.Fatalf("Fold(%s, %v, %d) = %s, %q, want %s, %q", tellBoard(b), list, index, tellBoard(got), said, tellBoard(want), replies)
	}
}

func TestFoldOfNothing(t *testing.T) {
	d := draw(5016)
	for _, b := range append(sharedBoards(), strangeBoard(&d), strangeBoard(&d), strangeBoard(&d)) {
		for _, index := range []int{math.MinInt64, -1, 0, 1, 400000, 400001, math.MaxInt64} {
			wantFold(t, b, nil, index, b)
			wantFold(t, b, []impl.Entry{}, index, b)
			// entries of other kinds, and texts that are no command
			wantFold(t, b, []impl.Entry{none(1)}, index, b, "")
			wantFold(t, b, []impl.Entry{conf(1, "\x01\x02"), none(1), conf(2, "\x01")}, index, b, "", "", "")
			wantFold(t, b, []impl.Entry{command(1, ""), command(1, "\x00"), command(1, "\x0a"), command(1, "what"), command(1, longText(640)), command(1, longText(20001))}, index, b, "", "", "", "", "", "")
		}
	}
}

// texts that are nearly a command
func TestFoldOfTornCommands(t *testing.T) {
	b := askedBoard(session(5, 1, "ok"))
	for _, x := range rightCommands() {
		data := commandData(x)
		for at := range data {
			wantFold(t, b, []impl.Entry{command(1, data[:at])}, 1, b, "")
		}
		wantFold(t, b, []impl.Entry{command(1, data+"\x00"), command(1, "\x0b"+data[1:]), command(1, data[:len(data)-1]+"\x02")}, 1, b, "", "", "")
		// the same text in an entry of another kind
		for _, kind := range []int{math.MinInt64, -1, 0, 1, 2, 4, 5, 256 + 3, math.MaxInt64} {
			wantFold(t, b, []impl.Entry{{Term: 1, Kind: kind, Data: data}}, 1, b, "")
		}
	}
}

// what is told of each entry, one behind the other, each at its index
func TestFoldOfCommands(t *testing.T) {
	open, take := commandData(impl.Command{Op: 1}), impl.Command{Op: 5, Token: 7, Seq: 1}
	list := []impl.Entry{none(1), command(1, open), conf(1, "\x01"), command(2, open), command(2, "what"), command(2, commandData(take)), command(2, commandData(take)), command(2, commandData(impl.Command{Op: 5, Token: 9, Seq: 2})), command(2, open), command(2, open)}
	for _, b := range []impl.Board{{}, impl.BoardNew(), askedBoard(), askedBoard(session(7, 0, "")), fullBoard()} {
		for _, index := range []int{math.MinInt64, -9, -5, -1, 0, 1, 6, 7, 399990, 399991, 399995, 399999, 400000, 400001, math.MaxInt64 - 3, math.MaxInt64} {
			lookAtDeed(t, b, folding(list, index))
			// as much as one entry after the other
			step := b
			var replies []string
			for at, e := range list {
				next, said := impl.Fold(step, []impl.Entry{e}, index+at)
				step, replies = next, append(replies, said...)
			}
			wantFold(t, b, list, index, step, replies...)
		}
		_, said := impl.Fold(b, list, 6)
		if said[1] != "open 7" || said[0]+said[2]+said[4] != "" || said[5] != said[6] || said[9] != "open 15" {
			t.Errorf("Fold(%s, %v, 6) is replied %q", tellBoard(b), list, said)
		}
	}
	// the Term has no part in it, nor that an entry is right
	for _, term := range []int{math.MinInt64, -1, 0, 100001, math.MaxInt64} {
		b := askedBoard(session(7, 0, ""))
		want, replies := impl.Fold(b, []impl.Entry{command(1, open), command(1, commandData(take))}, 9)
		wantFold(t, b, []impl.Entry{command(term, open), command(-term, commandData(take))}, 9, want, replies...)
	}
	// a board that is not right stays, whatever is asked
	d := draw(6016)
	for range 300 {
		b := strangeBoard(&d)
		lookAtDeed(t, b, folding(list, 1+d.below(20)))
	}
}

func TestDrawnFolds(t *testing.T) {
	d := draw(7016)
	for range 400 {
		b := busyBoard(&d)
		var list []impl.Entry
		step := b
		index := 1 + d.below(399980)
		for at := range d.below(12) {
			x := drawnCommand(&d, step)
			step, _, _ = plainPerform(step, index+at, x)
			e := command(1, commandData(x))
			switch d.below(8) {
			case 0:
				e = none(2)
			case 1:
				e.Data = e.Data[:d.below(len(e.Data))]
			}
			list = append(list, e)
		}
		lookAtDeed(t, b, folding(list, index))
	}
}

// promise 16: a command that is done and asked again changes nothing, and is replied the same
func TestCommandsAskedAgain(t *testing.T) {
	d := draw(8016)
	told := map[string]int{}
	for range 3000 {
		b := busyBoard(&d)
		if len(b.Sessions) == 0 || b.Sessions[0].Last == 1000000 {
			continue
		}
		s := b.Sessions[0]
		index := 1 + d.below(399000)
		x := drawnWork(&d, b, impl.Command{Token: s.Token, Seq: s.Last + 1})
		next, reply, ok := impl.Perform(b, index, x)
		if !ok || !impl.BoardOk(next) || next.Sessions[0] != session(s.Token, x.Seq, reply) {
			t.Fatalf("Perform(%s, %d, %+v) = %s, %q, %v", tellBoard(b), index, x, tellBoard(next), reply, ok)
		}
		told[strings.Fields(reply)[0]]++
		wantDeed(t, next, performing(index, x), next, reply)
		wantDeed(t, next, performing(index+1, x), next, reply)
		// and so it is when others have asked between
		for range 3 {
			y := drawnCommand(&d, next)
			if y.Op == 1 || y.Token == x.Token {
				continue
			}
			index++
			next, _, _ = impl.Perform(next, index, y)
			wantDeed(t, next, performing(index+1, x), next, reply)
		}
		// another command of this Token and Seq is not done
		wantDeed(t, next, performing(index+2, drawnWork(&d, next, impl.Command{Token: x.Token, Seq: x.Seq})), next, reply)
	}
	for _, word := range strings.Fields("plan there fault past made lease idle ok stale done none cleared set full") {
		if told[word] < 5 {
			t.Errorf("%q is replied %d times: %v", word, told[word], told)
		}
	}
}

// promise 16: what is given away has a token of its own, till its lease is over
func TestDrawnLeases(t *testing.T) {
	d := draw(9016)
	leases := 0
	for range 3000 {
		b := busyBoard(&d)
		if b.Clock > 68374079-20 {
			continue
		}
		next, reply := impl.Grant(b)
		if reply == "idle" {
			wantIdle(t, b)
			wantDeed(t, b, granting(), b, "idle")
			continue
		}
		leases++
		token := next.Tokens
		k, i := plainRunning(next, token)
		if token != b.Tokens+1 || k < 0 || next.Runs[k].Tasks[i].Until != b.Clock+5 || impl.BoardOk(next) != (token <= 999999991) {
			t.Fatalf("Grant(%s) = %s, %q", tellBoard(b), tellBoard(next), reply)
		}
		for _, r := range b.Runs {
			for _, s := range r.Tasks {
				if s.Token >= token {
					t.Fatalf("the token %d of %s is not above all others", token, tellBoard(next))
				}
			}
		}
		for wait := range 8 {
			later, _ := impl.Advance(next, b.Clock+wait)
			_, beaten := impl.Beat(later, token)
			_, done := impl.Report(later, token, true)
			_, bad := impl.Report(later, token, false)
			inTime := wait < 5
			if inTime != (beaten == "ok") || inTime != strings.HasPrefix(done, "done ") || inTime != (bad == "retry" || bad == "failed") || !inTime && (beaten != "stale" || done != "stale" || bad != "stale") {
				t.Fatalf("%d minutes behind Grant(%s) a beat is replied %q, a report %q and %q", wait, tellBoard(b), beaten, done, bad)
			}
			if inTime {
				longer, _ := impl.Beat(later, token)
				longer, _ = impl.Advance(longer, b.Clock+wait+4)
				if _, reply := impl.Beat(longer, token); reply != "ok" {
					t.Fatalf("a beat in time is replied %q on %s", reply, tellBoard(longer))
				}
				longer, _ = impl.Advance(longer, b.Clock+wait+5)
				if _, reply := impl.Beat(longer, token); reply != "stale" {
					t.Fatalf("a beat too late is replied %q on %s", reply, tellBoard(longer))
				}
			}
		}
	}
	if leases < 500 {
		t.Errorf("%d leases", leases)
	}
}

// promise 16: what is made by hand is just what lacks
func TestDrawnBackfills(t *testing.T) {
	d := draw(10016)
	mades, fulls := 0, 0
	for range 3000 {
		b := busyBoard(&d)
		if len(b.Plans) == 0 {
			continue
		}
		p := b.Plans[d.below(len(b.Plans))]
		name, from, upto := p.Dag.Name, drawnTime(&d, b), drawnTime(&d, b)
		next, reply := impl.Backfill(b, name, from, upto)
		wantBoardOk(t, next, true)
		// all that was there is there, and what is new lies in the window, from one minute that fires to the next
		rule := mustParse(t, p.Dag.Cron)
		begin, end := max(from, p.Floor), min(upto, b.Clock, p.Dag.To)
		made := 0
		for _, r := range next.Runs {
			if at := impl.RunAt(b, r.Dag, r.Span.From); at >= 0 {
				if !sameRun(r, b.Runs[at]) {
					t.Fatalf("Backfill(%s, %q, %d, %d) = %s: a run has changed", tellBoard(b), name, from, upto, tellBoard(next))
				}
				continue
			}
			made++
			fresh, _ := impl.RunNew(p.Dag, r.Span)
			after, _ := impl.NextFire(rule, r.Span.From+1, 400)
			if !sameRun(r, fresh) || r.Span.From < begin || r.Span.To > end || !impl.Fires(rule, r.Span.From) || after != r.Span.To {
				t.Fatalf("Backfill(%s, %q, %d, %d) makes %s", tellBoard(b), name, from, upto, tellRun(r))
			}
		}
		if reply != fmt.Sprint("made ", made) || len(next.Runs) != len(b.Runs)+made {
			t.Fatalf("Backfill(%s, %q, %d, %d) = %s, %q", tellBoard(b), name, from, upto, tellBoard(next), reply)
		}
		mades += made
		// nothing lacks, or there is no room, and nothing behind what lacks was made
		lacks := false
		for _, s := range impl.Spans(rule, begin, end, 20) {
			there := impl.RunAt(next, name, s.From) >= 0
			if lacks && there && impl.RunAt(b, name, s.From) < 0 {
				t.Fatalf("Backfill(%s, %q, %d, %d) = %s makes %v, and not what lacks ahead of it", tellBoard(b), name, from, upto, tellBoard(next), s)
			}
			lacks = lacks || !there
		}
		if lacks && len(next.Runs) != 8 {
			t.Fatalf("Backfill(%s, %q, %d, %d) = %s: more lacks", tellBoard(b), name, from, upto, tellBoard(next))
		}
		if lacks {
			fulls++
		}
		// all else stays
		wantDeed(t, b, filling(name, from, upto), changed(b, func(b *impl.Board) { b.Runs = next.Runs }), reply)
	}
	if mades < 500 || fulls < 100 {
		t.Errorf("%d runs are made, %d times there is no room for all", mades, fulls)
	}
}

// what a life of commands is held against
type commandLife struct {
	board  impl.Board
	index  int
	made   map[string]int
	leases map[int]int
	done   map[string]int
	told   map[string]int
}

func (l *commandLife) asks(t *testing.T, x impl.Command) {
	t.Helper()
	l.index++
	before := l.board
	next, reply, ok := impl.Perform(before, l.index, x)
	if !ok || !impl.BoardOk(next) {
		t.Fatalf("Perform(%s, %d, %+v) = %s, %q, %v", tellBoard(before), l.index, x, tellBoard(next), reply, ok)
	}
	l.board = next
	l.told[strings.Fields(reply)[0]]++
	if strings.HasPrefix(reply, "done ") {
		l.done[reply]++
		if l.done[reply] > 1 {
			t.Fatalf("%q is told twice", reply)
		}
	}
	l.looksAtRuns(t, before, x)
	l.looksAtPlans(t, before)
	l.looksAtLeases(t, before, x)
}

// a run is gone only by being swept, and that of a span is made once
func (l *commandLife) looksAtRuns(t *testing.T, before impl.Board, x impl.Command) {
	t.Helper()
	for _, r := range before.Runs {
		if impl.RunAt(l.board, r.Dag, r.Span.From) >= 0 {
			continue
		}
		p := l.board.Plans[impl.PlanAt(l.board, r.Dag)]
		running := slices.ContainsFunc(r.Tasks, func(s impl.State) bool { return s.Is == 1 && s.Until > l.board.Clock })
		if x.Op != 4 || p.Floor < r.Span.To || running {
			t.Fatalf("%+v loses %s, from %s to %s", x, tellRun(r), tellBoard(before), tellBoard(l.board))
		}
	}
	for _, r := range l.board.Runs {
		if impl.RunAt(before, r.Dag, r.Span.From) >= 0 {
			continue
		}
		l.made[fmt.Sprint(r.Dag, r.Span.From)]++
		if l.made[fmt.Sprint(r.Dag, r.Span.From)] > 1 || x.Op != 4 && x.Op != 8 {
			t.Fatalf("%+v makes %s, from %s to %s", x, tellRun(r), tellBoard(before), tellBoard(l.board))
		}
	}
}

// neither the Clock nor Tokens, a Cursor or a Floor ever falls, and no plan is gone
func (l *commandLife) looksAtPlans(t *testing.T, before impl.Board) {
	t.Helper()
	fallen := l.board.Clock < before.Clock || l.board.Tokens < before.Tokens
	for _, p := range before.Plans {
		at := impl.PlanAt(l.board, p.Dag.Name)
		fallen = fallen || at < 0 || l.board.Plans[at].Cursor < p.Cursor || l.board.Plans[at].Floor < p.Floor || !sameDag(l.board.Plans[at].Dag, p.Dag)
	}
	if fallen {
		t.Fatalf("something falls from %s to %s", tellBoard(before), tellBoard(l.board))
	}
}

// what runs has the token and the time that it was given; what does not is stale
func (l *commandLife) looksAtLeases(t *testing.T, before impl.Board, x impl.Command) {
	t.Helper()
	for _, r := range l.board.Runs {
		for _, s := range r.Tasks {
			if s.Is != 1 {
				continue
			}
			if _, there := l.leases[s.Token]; !there && s.Token <= before.Tokens || s.Until <= l.board.Clock {
				t.Fatalf("the token %d runs on %s", s.Token, tellBoard(l.board))
			}
			l.leases[s.Token] = s.Until
		}
	}
	for token, until := range l.leases {
		_, reply := impl.Beat(l.board, token)
		if over := until <= l.board.Clock; over && reply != "stale" || !over && x.Op != 7 && reply != "ok" {
			t.Fatalf("the lease %d till %d is %q on %s", token, until, reply, tellBoard(l.board))
		}
		if reply == "stale" {
			delete(l.leases, token)
			wantDeed(t, l.board, reporting(token, true), l.board, "stale")
		}
	}
}

// promise 16: a board whose clock goes on stays right, loses no run but what is swept, and makes each span's run once
func TestLivesByCommands(t *testing.T) {
	d := draw(11016)
	told := map[string]int{}
	for range 120 {
		l := &commandLife{board: impl.BoardNew(), made: map[string]int{}, leases: map[int]int{}, done: map[string]int{}, told: told}
		l.asks(t, impl.Command{Op: 1})
		for range 250 {
			b := l.board
			if d.below(40) == 0 {
				l.asks(t, impl.Command{Op: 1})
				continue
			}
			s := b.Sessions[d.below(len(b.Sessions))]
			x := drawnWork(&d, b, impl.Command{Token: s.Token, Seq: s.Last + 1})
			switch {
			case len(b.Plans) < 2 && d.below(4) == 0:
				x = impl.Command{Op: 2, Token: s.Token, Seq: s.Last + 1, Text: plainDagText(busyPlan(&d, busyNames()[d.below(4)], 0).Dag)}
			case d.below(3) > 0:
				x = impl.Command{Op: 5 + 2*d.below(2), Token: s.Token, Seq: s.Last + 1}
				if x.Op == 7 {
					x.Num, x.Yes = drawnToken(&d, b), d.below(4) > 0
				}
			case d.below(2) == 0 || x.Op == 4:
				x = impl.Command{Op: 4, Token: s.Token, Seq: s.Last + 1, Num: b.Clock + []int{0, 1, 2, 5, 10, d.below(60)}[d.below(6)]}
			}
			l.asks(t, x)
		}
	}
	for _, word := range strings.Fields("plan made lease idle ok stale done retry failed none cleared set open") {
		if told[word] < 20 {
			t.Errorf("%q is replied %d times: %v", word, told[word], told)
		}
	}
}

// boards of any fields, and whatever is asked of them
func TestStrangeDeeds(t *testing.T) {
	d := draw(12016)
	for range 1500 {
		b := strangeBoard(&d)
		texts := []string{strangeText(&d), plainDagText(drawnDag(&d)), plainDagText(named("ann", handDag())), plainDagText(named("cid", chain()))}
		name := strangeText(&d)
		if len(b.Plans) > 0 {
			name = b.Plans[d.below(len(b.Plans))].Dag.Name
		}
		taskName := []string{"a", "b", "", "zz"}[d.below(4)]
		x := impl.Command{Op: d.below(11), Token: strangeNumber(&d), Seq: strangeNumber(&d), Text: strangeText(&d), Task: taskName, Num: strangeNumber(&d), To: strangeNumber(&d), Yes: d.below(2) == 0}
		for _, asked := range []deed{
			submitting(texts[d.below(4)]), advancing(strangeNumber(&d)), advancing(b.Clock), advancing(d.below(300)), granting(), beating(strangeNumber(&d)), beating(1 + d.below(4)), reporting(strangeNumber(&d), true), reporting(1+d.below(4), d.below(2) == 0),
			filling(name, strangeNumber(&d), strangeNumber(&d)), filling(name, 0, 300), clearing(name, strangeNumber(&d), taskName), clearing(name, d.below(5), taskName), performing(strangeNumber(&d), x), performing(7, x), performing(7, drawnWork(&d, impl.Board{}, impl.Command{Token: x.Token, Seq: 1})),
		} {
			lookAtDeed(t, b, asked)
		}
		wantCommandOk(t, x, plainCommandOk(x))
	}
}

// lists that are far too long are gone through, too
func TestGreatDeeds(t *testing.T) {
	const many = 1 << 11
	ann := dagOf(task("a", "wide", 1, false), task("b", "wide", 0, true, "a"))
	b := impl.Board{Sessions: make([]impl.Session, many), Clock: 100}
	for at := range many {
		d := named(fmt.Sprint("p", at), ann)
		b.Plans = append(b.Plans, planOf(d))
		b.Runs = append(b.Runs, hour(d, 60, 1, 0))
		b.Runs[at].Tasks[0] = state(1, 0, at+1, 100+at%10)
	}
	told := func(does deed) string {
		_, reply := does.does(b)
		return reply
	}
	name := fmt.Sprint("p", many-1)
	for _, known := range []struct {
		asked deed
		reply string
	}{
		{submitting(textOf(handLines()...)), "full"}, {submitting(plainDagText(named(name, ann))), "there"}, {advancing(105), "made 0"}, {granting(), "idle"}, {beating(many), "ok"}, {beating(many + 1), "stale"},
		{reporting(many, true), fmt.Sprintf("done %s 60 a 0", name)}, {reporting(1, false), "retry"}, {filling(name, 0, 600), "made 0"}, {clearing(name, 60, "b"), "cleared"}, {clearing(name, 60, "a"), "none"}, {performing(1, impl.Command{Op: 1}), refusal},
	} {
		if reply := told(known.asked); reply != known.reply {
			t.Errorf("%s is replied %q, not %q", known.asked.told, reply, known.reply)
		}
	}
	next, _ := impl.Advance(b, 105)
	for at, r := range next.Runs {
		if want := map[bool]impl.State{true: state(0, 1, 0, 107), false: b.Runs[at].Tasks[0]}[at%10 <= 5]; r.Tasks[0] != want {
			t.Fatalf("run %d is %s", at, tellRun(r))
		}
	}
	list := slices.Repeat([]impl.Entry{none(1), command(1, "x")}, many)
	if _, replies := impl.Fold(b, list, 1); len(replies) != 2*many {
		t.Errorf("%d entries have %d replies", 2*many, len(replies))
	}
}

// boards, and what is asked of each, whose lists are looked at for what they share
func sharedDeeds() ([]impl.Board, [][]deed) {
	d := draw(13016)
	boards := append(sharedBoards()[:12], askedBoard(), askedBoard(session(5, 1, "ok"), session(6, 3, "full")), runningBoard())
	for range 120 {
		boards = append(boards, busyBoard(&d))
	}
	var deeds [][]deed
	for at, b := range boards {
		b = cloneTexts(b)
		boards[at] = b
		list := []deed{submitting(plainDagText(named("cid", diamond()))), submitting("dag"), advancing(b.Clock - 1), advancing(b.Clock), advancing(min(b.Clock+200, 68374079)), granting(), beating(drawnToken(&d, b)), reporting(drawnToken(&d, b), true), reporting(drawnToken(&d, b), false), filling(drawnPlanName(&d, b), 0, 68374079), performing(3, impl.Command{Op: 1}), performing(0, impl.Command{Op: 1}), folding([]impl.Entry{none(1), command(1, commandData(impl.Command{Op: 1})), command(1, "x")}, 5)}
		// what is drawn for a board wants a right one
		if !plainBoardOk(b) {
			deeds = append(deeds, list)
			continue
		}
		name, from, task := drawnPlace(&d, b)
		list = append(list, clearing(name, from, task))
		for _, s := range b.Sessions {
			list = append(list, performing(5, impl.Command{Op: 5, Token: s.Token, Seq: min(s.Last, 1000000)}))
			for range 4 {
				list = append(list, performing(5, drawnWork(&d, b, impl.Command{Token: s.Token, Seq: min(s.Last+1, 1000000)})))
			}
		}
		deeds = append(deeds, list)
	}
	return boards, deeds
}

// the same board with texts of its own
func cloneTexts(b impl.Board) impl.Board {
	b = copyBoard(b)
	for at := range b.Sessions {
		b.Sessions[at].Reply = strings.Clone(b.Sessions[at].Reply)
	}
	for at := range b.Plans {
		d := &b.Plans[at].Dag
		d.Name, d.Cron = strings.Clone(d.Name), strings.Clone(d.Cron)
		for i := range d.Tasks {
			d.Tasks[i].Name, d.Tasks[i].Pool = strings.Clone(d.Tasks[i].Name), strings.Clone(d.Tasks[i].Pool)
			for up := range d.Tasks[i].After {
				d.Tasks[i].After[up] = strings.Clone(d.Tasks[i].After[up])
			}
		}
	}
	for k := range b.Runs {
		b.Runs[k].Dag = strings.Clone(b.Runs[k].Dag)
	}
	return b
}

func TestDeedsWriteIntoNothing(t *testing.T) {
	boards, deeds := sharedDeeds()
	for at, from := range boards {
		for _, asked := range deeds[at] {
			want, reply := asked.plain(from)
			b, untouched := roomyBoard(from)
			got, said := asked.does(b)
			if said != reply || !sameBoard(got, want) || !untouched() {
				t.Fatalf("%s writes into %s", asked.told, tellBoard(from))
			}
			// nothing of the board is kept, and nothing of what was answered is its own
			scribbleBoard(b)
			if !sameBoard(got, want) {
				t.Fatalf("what %s answered of %s has changed to %s", asked.told, tellBoard(from), tellBoard(got))
			}
			wantDeed(t, from, asked, want, reply)
		}
	}
}

// no two lists of one answer share memory, or the room behind them
func lookAtLists(t *testing.T, got, want impl.Board, told string) {
	t.Helper()
	_ = append(got.Sessions, session(-1, -1, "behind"))
	_ = append(got.Plans, planOf(dagOf(one("behind"))))
	_ = append(got.Runs, hour(handDag(), -5, 1))
	for _, p := range got.Plans {
		_ = append(p.Dag.Tasks, one("behind"))
		for _, task := range p.Dag.Tasks {
			_ = append(task.After, "behind")
		}
	}
	for _, r := range got.Runs {
		_ = append(r.Tasks, state(-1, -2, -3, -4))
	}
	if !sameBoard(got, want) {
		t.Fatalf("two lists of what %s answers share the room behind them", told)
	}
	for k := range got.Runs {
		scribbleRun(got.Runs[k])
		got.Runs[k].Tasks = slices.Clone(want.Runs[k].Tasks)
		if !sameBoard(got, want) {
			t.Fatalf("the tasks of run %d of what %s answers share memory", k, told)
		}
	}
	for at := range got.Plans {
		for i, task := range got.Plans[at].Dag.Tasks {
			scribbleTexts(task.After)
			got.Plans[at].Dag.Tasks[i].After = slices.Clone(want.Plans[at].Dag.Tasks[i].After)
			if !sameBoard(got, want) {
				t.Fatalf("what task %d of plan %d of what %s answers is After shares memory", i, at, told)
			}
		}
		scribbleTasks(got.Plans[at].Dag.Tasks)
		got.Plans[at].Dag.Tasks = copyDag(want.Plans[at].Dag).Tasks
		if !sameBoard(got, want) {
			t.Fatalf("the tasks of plan %d of what %s answers share memory", at, told)
		}
	}
}

func TestDeedsAnswerNewMemory(t *testing.T) {
	boards, deeds := sharedDeeds()
	for at, from := range boards {
		for _, asked := range deeds[at] {
			want, reply := asked.plain(from)
			b, untouched := roomyBoard(from)
			first, _ := asked.does(b)
			second, _ := asked.does(b)
			lookAtLists(t, first, want, asked.told)
			scribbleBoard(first)
			third, said := asked.does(b)
			if !sameBoard(second, want) || !sameBoard(third, want) || said != reply || !untouched() {
				t.Fatalf("what %s answers of %s shares memory with it, or with another answer", asked.told, tellBoard(from))
			}
		}
	}
}

func TestDeedTextsAreNewMemory(t *testing.T) {
	boards, deeds := sharedDeeds()
	for at, b := range boards {
		for _, asked := range deeds[at] {
			first, reply := asked.does(b)
			second, _ := asked.does(b)
			old := append(textsOn(b), textsOn(second)...)
			for _, text := range textsOn(first) {
				if slices.ContainsFunc(old, func(other string) bool { return sharesBytes(text, other) }) {
					t.Fatalf("%q of what %s answers of %s has bytes of it, or of another answer", text, asked.told, tellBoard(b))
				}
			}
			if slices.ContainsFunc(append(old, textsOn(first)...), func(other string) bool { return sharesBytes(reply, other) }) {
				t.Fatalf("the reply %q to %s has bytes of %s, or of what comes of it", reply, asked.told, tellBoard(b))
			}
		}
	}
	// the words of a plan are not those that came in
	text := strings.Clone(plainDagText(named("cid", diamond())))
	next, _ := impl.Submit(impl.Board{}, text)
	if slices.ContainsFunc(textsOn(next), func(other string) bool { return sharesBytes(text, other) }) || len(next.Plans) != 1 {
		t.Errorf("Submit(%q) = %s has bytes of it", text, tellBoard(next))
	}
	b := impl.Board{Sessions: []impl.Session{session(5, 0, "")}}
	next, _, _ = impl.Perform(b, 9, impl.Command{Op: 2, Token: 5, Seq: 1, Text: text})
	if slices.ContainsFunc(textsOn(next), func(other string) bool { return sharesBytes(text, other) }) || len(next.Plans) != 1 {
		t.Errorf("the words of %s are those that came in", tellBoard(next))
	}
	// nor are names that were asked for
	plan, task := strings.Clone("ann"), strings.Clone("b")
	next, reply := impl.Clear(askedBoard(), plan, 0, task)
	if slices.ContainsFunc(append(textsOn(next), reply), func(other string) bool { return sharesBytes(plan, other) || sharesBytes(task, other) }) || reply != "cleared" {
		t.Errorf("Clear has bytes of what was asked: %s, %q", tellBoard(next), reply)
	}
}

// the replies of Fold are a list of their own, and its entries are not written into
func TestFoldedListsAreNewMemory(t *testing.T) {
	b := askedBoard(session(5, 1, "ok"))
	list := append(make([]impl.Entry, 0, 8), none(1), command(1, commandData(impl.Command{Op: 1})), command(1, "x"), command(2, commandData(impl.Command{Op: 5, Token: 5, Seq: 2})))
	copy(list[4:8], []impl.Entry{command(9, "room"), command(9, "room"), command(9, "room"), command(9, "room")})
	before := slices.Clone(list[:8])
	_, want := plainFold(b, list, 9)
	_, first := impl.Fold(b, list, 9)
	_, second := impl.Fold(b, list, 9)
	_ = append(first, "behind")
	for at := range first {
		first[at] = "scribble"
	}
	_, third := impl.Fold(b, list, 9)
	if !slices.Equal(second, want) || !slices.Equal(third, want) || !slices.Equal(list[:8], before) {
		t.Errorf("Fold answers %q, then %q, then %q; its entries are %v", first, second, third, list[:8])
	}
}

// an empty list is nil, as it comes in and as it is answered
func TestEmptyListsOfDeeds(t *testing.T) {
	boards, deeds := sharedDeeds()
	for at, b := range boards {
		other := copyBoard(b)
		other.Sessions, other.Plans, other.Runs = append([]impl.Session{}, other.Sessions...), append([]impl.Plan{}, other.Plans...), append([]impl.Run{}, other.Runs...)
		for at := range other.Plans {
			tasks := append([]impl.Task{}, other.Plans[at].Dag.Tasks...)
			for i := range tasks {
				tasks[i].After = append([]string{}, tasks[i].After...)
			}
			other.Plans[at].Dag.Tasks = tasks
		}
		for k := range other.Runs {
			other.Runs[k].Tasks = append([]impl.State{}, other.Runs[k].Tasks...)
		}
		for _, asked := range deeds[at] {
			want, reply := asked.plain(b)
			wantDeed(t, other, asked, want, reply)
		}
	}
}

// what one call answers has no part in what the next one does, in whichever order they come
func TestDeedsKeepNothing(t *testing.T) {
	boards, deeds := sharedDeeds()
	boards = boards[:40]
	for round := range 3 {
		for at := range boards {
			at = (at*7 + round*3) % len(boards)
			for turn := range deeds[at] {
				lookAtDeed(t, boards[at], deeds[at][(turn*5+round)%len(deeds[at])])
			}
		}
	}
}
