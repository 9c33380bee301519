package tests

import (
	"cmp"
	"fmt"
	"math"
	"slices"
	"strings"
	"sync"
	"testing"

	"loop.example/g00188/impl"
)

// a plan of which nothing was made yet
func planOf(d impl.Dag) impl.Plan { return impl.Plan{Dag: d, Cursor: d.From, Floor: d.From} }

func plansOf(list ...impl.Dag) []impl.Plan {
	var plans []impl.Plan
	for _, d := range list {
		plans = append(plans, planOf(d))
	}
	return plans
}

// the same plan under another name
func named(name string, d impl.Dag) impl.Dag {
	d = copyDag(d)
	d.Name = name
	return d
}

// the run of the hour from this minute on, with nothing but the Is of its tasks
func hour(d impl.Dag, from int, kinds ...int) impl.Run {
	return impl.Run{Dag: d.Name, Span: span(from, from+60), Tasks: states(kinds...)}
}

// a board at the minute 100, on which each task that runs has a Token of its own, from 1 on
func boardOf(plans []impl.Plan, runs ...impl.Run) impl.Board {
	b := impl.Board{Plans: plans, Runs: copyRuns(runs), Clock: 100, Tokens: 50}
	token := 0
	for _, r := range b.Runs {
		for i := range r.Tasks {
			if r.Tasks[i].Is == 1 {
				token++
				r.Tasks[i].Token = token
			}
		}
	}
	return b
}

func samePlan(a, b impl.Plan) bool {
	return sameDag(a.Dag, b.Dag) && a.Paused == b.Paused && a.Cursor == b.Cursor && a.Floor == b.Floor
}

func sameBoard(a, b impl.Board) bool {
	return slices.Equal(a.Sessions, b.Sessions) && slices.EqualFunc(a.Plans, b.Plans, samePlan) && sameRuns(a.Runs, b.Runs) && a.Clock == b.Clock && a.Tokens == b.Tokens
}

func copyBoard(b impl.Board) impl.Board {
	b.Sessions, b.Plans, b.Runs = slices.Clone(b.Sessions), slices.Clone(b.Plans), copyRuns(b.Runs)
	for at := range b.Plans {
		b.Plans[at].Dag = copyDag(b.Plans[at].Dag)
	}
	return b
}

func tellBoard(b impl.Board) string {
	if len(b.Sessions)+len(b.Plans)+len(b.Runs) > 50 {
		return fmt.Sprintf("a board of %d sessions, %d plans and %d runs", len(b.Sessions), len(b.Plans), len(b.Runs))
	}
	return fmt.Sprintf("%.3000s", fmt.Sprintf("%+v", b))
}

func plainPlanAt(b impl.Board, name string) int {
	for at, p := range b.Plans {
		if p.Dag.Name == name {
			return at
		}
	}
	return -1
}

func plainRunAt(b impl.Board, name string, from int) int {
	for at, r := range b.Runs {
		if r.Dag == name && r.Span.From == from {
			return at
		}
	}
	return -1
}

// the places of all runs with this name, in order
func plainRunsOf(b impl.Board, name string) []int {
	var places []int
	for k, r := range b.Runs {
		if r.Dag == name {
			places = append(places, k)
		}
	}
	return places
}

func plainPast(b impl.Board, k, i int) bool {
	if k < 0 || k >= len(b.Runs) {
		return false
	}
	places := plainRunsOf(b, b.Runs[k].Dag)
	at := slices.Index(places, k)
	if at == 0 {
		return true
	}
	tasks := b.Runs[places[at-1]].Tasks
	return i >= 0 && i < len(tasks) && tasks[i].Is == 2
}

func plainUsed(b impl.Board, pool string) int {
	used := 0
	for _, r := range b.Runs {
		at := plainPlanAt(b, r.Dag)
		if at < 0 {
			continue
		}
		for i, t := range b.Plans[at].Dag.Tasks {
			if t.Pool == pool && i < len(r.Tasks) && r.Tasks[i].Is == 1 {
				used++
			}
		}
	}
	return used
}

func plainActive(b impl.Board, name string) int {
	active := 0
	for _, k := range plainRunsOf(b, name) {
		for _, s := range b.Runs[k].Tasks {
			if s.Is == 1 {
				active++
			}
		}
	}
	return active
}

func plainSize(pool string) int { return map[string]int{"one": 1, "two": 2, "wide": 4}[pool] }

func plainSessionsOk(list []impl.Session) bool {
	for at, s := range list {
		if s.Token < 1 || s.Token > 1000000 || s.Last < 0 || s.Last > 1000000 || len(s.Reply) > 60 || s.Last == 0 && s.Reply != "" {
			return false
		}
		for _, ahead := range list[:at] {
			if ahead.Token >= s.Token {
				return false
			}
		}
	}
	return len(list) <= 3
}

func plainPlansOk(list []impl.Plan) bool {
	for at, p := range list {
		if !plainDagOk(p.Dag) || p.Cursor < p.Dag.From || p.Cursor > 68374080 || p.Floor < p.Dag.From || p.Floor > 68374079 {
			return false
		}
		for _, ahead := range list[:at] {
			if ahead.Dag.Name >= p.Dag.Name {
				return false
			}
		}
	}
	return len(list) <= 2
}

// the runs of a board whose plans are right
func plainRunsOk(b impl.Board) bool {
	for k, r := range b.Runs {
		at := plainPlanAt(b, r.Dag)
		if at < 0 || !plainRunOk(b.Plans[at].Dag, r) || r.Span.From < b.Plans[at].Floor {
			return false
		}
		for _, ahead := range b.Runs[:k] {
			if ahead.Dag > r.Dag || ahead.Dag == r.Dag && ahead.Span.From >= r.Span.From {
				return false
			}
		}
	}
	return len(b.Runs) <= 8
}

func plainBoardOk(b impl.Board) bool {
	if len(b.Plans) > 2 || len(b.Runs) > 8 || !plainSessionsOk(b.Sessions) || !plainPlansOk(b.Plans) || !plainRunsOk(b) {
		return false
	}
	tokens := map[int]int{}
	for _, r := range b.Runs {
		for _, s := range r.Tasks {
			if s.Is == 1 {
				tokens[s.Token]++
			}
		}
	}
	for token, count := range tokens {
		if count > 1 || token > b.Tokens {
			return false
		}
	}
	for _, p := range b.Plans {
		if plainActive(b, p.Dag.Name) > 2 {
			return false
		}
	}
	for _, pool := range []string{"one", "two", "wide"} {
		if plainUsed(b, pool) > plainSize(pool) {
			return false
		}
	}
	return b.Tokens >= 0 && b.Tokens <= 999999991 && b.Clock >= 0 && b.Clock <= 68374079
}

// all that is due, as places of runs and tasks: the least From first, then by the place in Runs, then by that in OrderOf
func plainDue(b impl.Board) [][2]int {
	var due [][2]int
	for k, r := range b.Runs {
		at := plainPlanAt(b, r.Dag)
		if at < 0 || b.Plans[at].Paused || plainActive(b, r.Dag) >= 2 || !plainDagOk(b.Plans[at].Dag) {
			continue
		}
		d := b.Plans[at].Dag
		right := plainRunOk(d, r)
		for _, i := range plainOrder(d) {
			if pool := d.Tasks[i].Pool; plainReady(d, right, r, i, plainPast(b, k, i), b.Clock) && plainUsed(b, pool) < plainSize(pool) {
				due = append(due, [2]int{k, i})
			}
		}
	}
	slices.SortStableFunc(due, func(x, y [2]int) int { return cmp.Compare(b.Runs[x[0]].Span.From, b.Runs[y[0]].Span.From) })
	return due
}

// one run after the other goes, as long as there is one
func plainSweep(b impl.Board) impl.Board {
	b = copyBoard(b)
	for {
		gone := false
		for _, p := range b.Plans {
			places := plainRunsOf(b, p.Dag.Name)
			if len(places) < 2 || !plainOver(b.Runs[places[0]]) || !plainOver(b.Runs[places[1]]) {
				continue
			}
			if floor := &b.Plans[plainPlanAt(b, p.Dag.Name)].Floor; b.Runs[places[0]].Span.To > *floor {
				*floor = b.Runs[places[0]].Span.To
			}
			b.Runs = slices.Delete(b.Runs, places[0], places[0]+1)
			gone = true
		}
		if !gone {
			return b
		}
	}
}

func wantBoardOk(t *testing.T, b impl.Board, want bool) {
	t.Helper()
	if got := impl.BoardOk(b); got != want {
		t.Fatalf("BoardOk(%s) = %v", tellBoard(b), got)
	}
}

// by hand, by the chapter's words done anew, and by the program
func acceptBoard(t *testing.T, b impl.Board) {
	t.Helper()
	if !plainBoardOk(b) {
		t.Fatalf("by hand %s is right", tellBoard(b))
	}
	wantBoardOk(t, b, true)
}

func refuseBoard(t *testing.T, b impl.Board) {
	t.Helper()
	if plainBoardOk(b) {
		t.Fatalf("by hand %s is not right", tellBoard(b))
	}
	wantBoardOk(t, b, false)
}

func decideBoard(t *testing.T, b impl.Board, right bool) {
	t.Helper()
	if right {
		acceptBoard(t, b)
	} else {
		refuseBoard(t, b)
	}
}

func wantPlanAt(t *testing.T, b impl.Board, name string, want int) {
	t.Helper()
	if got := impl.PlanAt(b, name); got != want {
		t.Fatalf("PlanAt(%s, %.50q) = %d, want %d", tellBoard(b), name, got, want)
	}
}

func wantRunAt(t *testing.T, b impl.Board, name string, from, want int) {
	t.Helper()
	if got := impl.RunAt(b, name, from); got != want {
		t.Fatalf("RunAt(%s, %.50q, %d) = %d, want %d", tellBoard(b), name, from, got, want)
	}
}

func wantPast(t *testing.T, b impl.Board, k, i int, want bool) {
	t.Helper()
	if got := impl.PastOf(b, k, i); got != want {
		t.Fatalf("PastOf(%s, %d, %d) = %v", tellBoard(b), k, i, got)
	}
}

func wantUsed(t *testing.T, b impl.Board, pool string, want int) {
	t.Helper()
	if got := impl.UsedBy(b, pool); got != want {
		t.Fatalf("UsedBy(%s, %.50q) = %d, want %d", tellBoard(b), pool, got, want)
	}
}

func wantActive(t *testing.T, b impl.Board, name string, want int) {
	t.Helper()
	if got := impl.ActiveOf(b, name); got != want {
		t.Fatalf("ActiveOf(%s, %.50q) = %d, want %d", tellBoard(b), name, got, want)
	}
}

func wantNextTask(t *testing.T, b impl.Board, run, task int) {
	t.Helper()
	if k, i, ok := impl.NextTask(b); k != run || i != task || !ok {
		t.Fatalf("NextTask(%s) = %d, %d, %v, want %d, %d", tellBoard(b), k, i, ok, run, task)
	}
}

func wantIdle(t *testing.T, b impl.Board) {
	t.Helper()
	if k, i, ok := impl.NextTask(b); k != 0 || i != 0 || ok {
		t.Fatalf("NextTask(%s) = %d, %d, %v, want none", tellBoard(b), k, i, ok)
	}
}

func wantSweep(t *testing.T, b, want impl.Board) {
	t.Helper()
	if got := impl.Sweep(b); !sameBoard(got, want) {
		t.Fatalf("Sweep(%s) = %s, want %s", tellBoard(b), tellBoard(got), tellBoard(want))
	}
}

// names of plans, of runs, and of none
func namesOn(b impl.Board) []string {
	names := []string{"", "ann", "zz", "an", "ann "}
	for _, p := range b.Plans {
		names = append(names, p.Dag.Name)
	}
	for _, r := range b.Runs {
		names = append(names, r.Dag)
	}
	slices.Sort(names)
	return slices.Compact(names)
}

func poolsOn(b impl.Board) []string {
	pools := []string{"", "one", "two", "wide", "ann", "on", "ONE", "one "}
	for _, p := range b.Plans {
		for _, t := range p.Dag.Tasks {
			pools = append(pools, t.Pool)
		}
	}
	slices.Sort(pools)
	return slices.Compact(pools)
}

// all that is asked of a board, right or not, against the chapter's words done anew; whether it is right
func lookAtBoard(t *testing.T, b impl.Board) bool {
	t.Helper()
	right := plainBoardOk(b)
	wantBoardOk(t, b, right)
	for _, name := range namesOn(b) {
		wantPlanAt(t, b, name, plainPlanAt(b, name))
		wantActive(t, b, name, plainActive(b, name))
		for _, r := range append(b.Runs, impl.Run{}) {
			wantRunAt(t, b, name, r.Span.From, plainRunAt(b, name, r.Span.From))
		}
	}
	for _, pool := range poolsOn(b) {
		wantUsed(t, b, pool, plainUsed(b, pool))
	}
	for k := -1; k <= len(b.Runs); k++ {
		for i := -1; i <= 5; i++ {
			wantPast(t, b, k, i, plainPast(b, k, i))
		}
	}
	if due := plainDue(b); len(due) > 0 {
		wantNextTask(t, b, due[0][0], due[0][1])
	} else {
		wantIdle(t, b)
	}
	wantSweep(t, b, plainSweep(b))
	return right
}

// the promise, of a right board, by the program's own words: what is told is due, and nothing that is due comes ahead of it; whether there is something
func lookAtDue(t *testing.T, b impl.Board) bool {
	t.Helper()
	isDue := func(k, i int) bool {
		p := b.Plans[impl.PlanAt(b, b.Runs[k].Dag)]
		pool := p.Dag.Tasks[i].Pool
		return impl.Ready(p.Dag, b.Runs[k], i, impl.PastOf(b, k, i), b.Clock) && !p.Paused && impl.ActiveOf(b, p.Dag.Name) < impl.MaxActive && impl.UsedBy(b, pool) < impl.PoolSize(pool)
	}
	run, task, ok := impl.NextTask(b)
	if ok && !isDue(run, task) {
		t.Fatalf("task %d of run %d of %s is not due", task, run, tellBoard(b))
	}
	for k, r := range b.Runs {
		order := impl.OrderOf(b.Plans[impl.PlanAt(b, r.Dag)].Dag)
		for i := range r.Tasks {
			if !isDue(k, i) {
				continue
			}
			ahead := !ok || r.Span.From < b.Runs[run].Span.From || r.Span.From == b.Runs[run].Span.From && k < run || k == run && slices.Index(order, i) < slices.Index(order, task)
			if ahead {
				t.Fatalf("task %d of run %d of %s comes ahead of task %d of run %d, %v", i, k, tellBoard(b), task, run, ok)
			}
		}
	}
	return ok
}

// whether no two runs of a plan reach into one another
func isApart(b impl.Board) bool {
	for _, r := range b.Runs {
		for _, other := range b.Runs {
			if r.Dag == other.Dag && r.Span.From < other.Span.From && other.Span.From < r.Span.To {
				return false
			}
		}
	}
	return true
}

// the promise, of a right board: what is swept was over, is below the Floor and never comes back; nothing more is to be swept; how many are gone
func lookAtSwept(t *testing.T, b impl.Board) int {
	t.Helper()
	swept := impl.Sweep(b)
	if isApart(b) {
		wantBoardOk(t, swept, true)
	}
	wantSweep(t, swept, swept)
	gone := 0
	for _, r := range b.Runs {
		if impl.RunAt(swept, r.Dag, r.Span.From) >= 0 {
			continue
		}
		gone++
		floor := swept.Plans[impl.PlanAt(swept, r.Dag)].Floor
		if !impl.Over(r) || r.Span.From >= floor || r.Span.To > floor {
			t.Fatalf("%s is swept off %s, and is not over, or not below the Floor of %s", tellRun(r), tellBoard(b), tellBoard(swept))
		}
		back := copyBoard(swept)
		back.Runs = append(back.Runs, r)
		slices.SortFunc(back.Runs, func(x, y impl.Run) int {
			return cmp.Or(cmp.Compare(x.Dag, y.Dag), cmp.Compare(x.Span.From, y.Span.From))
		})
		wantBoardOk(t, back, false)
	}
	if gone+len(swept.Runs) != len(b.Runs) {
		t.Fatalf("%d of %s are gone, and %d are left", gone, tellBoard(b), len(swept.Runs))
	}
	return gone
}

func TestBoardConstants(t *testing.T) {
	limits := []int{impl.MaxPlans, impl.MaxRuns, impl.MaxActive, impl.Lease, impl.MaxSessions}
	if !slices.Equal(limits, []int{2, 8, 2, 5, 3}) {
		t.Errorf("the limits are %v", limits)
	}
}

func TestBoardNew(t *testing.T) {
	for range 3 {
		b := impl.BoardNew()
		if len(b.Sessions) != 0 || len(b.Plans) != 0 || len(b.Runs) != 0 || b.Clock != 0 || b.Tokens != 1 {
			t.Fatalf("BoardNew() = %s", tellBoard(b))
		}
		acceptBoard(t, b)
		lookAtBoard(t, b)
		wantIdle(t, b)
		wantSweep(t, b, b)
		// what is put on one is not on the next one
		b.Plans = append(b.Plans, planOf(handDag()))
		b.Runs = append(b.Runs, hour(handDag(), 0, 0, 0))
		b.Sessions = append(b.Sessions, impl.Session{Token: 1})
	}
}

// two plans and three runs: one task runs in each of two of them
func fullBoard() impl.Board {
	ann, bob := handDag(), named("bob", diamond())
	b := boardOf(plansOf(ann, bob), hour(ann, 0, 2, 2), hour(ann, 60, 1, 0), hour(bob, 60, 2, 1, 0, 0))
	b.Sessions = []impl.Session{{Token: 3, Last: 7, Reply: "plan"}, {Token: 5}, {Token: 9, Last: 1}}
	return b
}

func session(token, last int, reply string) impl.Session {
	return impl.Session{Token: token, Last: last, Reply: reply}
}

func TestBoardOkSessions(t *testing.T) {
	with := func(list ...impl.Session) impl.Board {
		b := fullBoard()
		b.Sessions = list
		return b
	}
	acceptBoard(t, fullBoard())
	for count := range 8 {
		var list []impl.Session
		for at := range count {
			list = append(list, session(at+1, 0, ""))
		}
		decideBoard(t, with(list...), count <= 3)
	}
	decideBoard(t, with(make([]impl.Session, 1<<16)...), false)
	// ascending, and none alike
	for _, known := range []struct {
		tokens []int
		want   bool
	}{
		{[]int{1}, true}, {[]int{1000000}, true}, {[]int{0}, false}, {[]int{-1}, false}, {[]int{1000001}, false},
		{[]int{1, 2}, true}, {[]int{1, 1}, false}, {[]int{2, 1}, false}, {[]int{0, 1}, false}, {[]int{-1, 1}, false}, {[]int{1, 1000000}, true}, {[]int{999999, 1000000}, true}, {[]int{1000000, 1000001}, false}, {[]int{1, 1000001}, false},
		{[]int{1, 2, 3}, true}, {[]int{1, 3, 2}, false}, {[]int{2, 1, 3}, false}, {[]int{3, 1, 2}, false}, {[]int{2, 3, 1}, false}, {[]int{3, 2, 1}, false},
		{[]int{1, 1, 2}, false}, {[]int{1, 2, 2}, false}, {[]int{1, 2, 1}, false}, {[]int{2, 2, 2}, false}, {[]int{1, 500, 1000000}, true}, {[]int{0, 1, 2}, false}, {[]int{1, 2, 1000001}, false},
	} {
		var list []impl.Session
		for _, token := range known.tokens {
			list = append(list, session(token, 1, "ok"))
		}
		decideBoard(t, with(list...), known.want)
	}
	// one of three is another one
	for place := range 3 {
		look := func(s impl.Session, want bool) {
			t.Helper()
			b := with(session(1, 2, "ok"), session(10, 3, ""), session(1000000, 0, ""))
			s.Token = b.Sessions[place].Token
			b.Sessions[place] = s
			decideBoard(t, b, want)
		}
		for _, last := range []int{math.MinInt64, -1 << 32, -2, -1, 0, 1, 2, 999999, 1000000, 1000001, 1 << 32, 1<<32 + 1, math.MaxInt64} {
			look(session(0, last, ""), last >= 0 && last <= 1000000)
			look(session(0, last, "x"), last >= 1 && last <= 1000000)
		}
		for _, length := range []int{0, 1, 2, 30, 59, 60, 61, 62, 120, 255, 256, 316, 1000, 20000, 20001, 65536, 65596} {
			look(session(0, 1, longText(length)), length <= 60)
			look(session(0, 1000000, longText(length)), length <= 60)
			look(session(0, 0, longText(length)), length == 0)
		}
		// a length is one of bytes, and these are any
		look(session(0, 1, strings.Repeat("\xff", 60)), true)
		look(session(0, 1, strings.Repeat("\x00", 60)), true)
		look(session(0, 1, strings.Repeat("\n", 61)), false)
		look(session(0, 1, strings.Repeat("é", 30)), true)
		look(session(0, 1, strings.Repeat("é", 31)), false)
		look(session(0, 0, "\x00"), false)
	}
	for _, token := range []int{math.MinInt64, -1 << 32, -1, 0, 1, 2, 8, 9, 10, 11, 12, 19, 20, 21, 999999, 1000000, 1000001, 1 << 32, 1<<32 + 15, math.MaxInt64} {
		decideBoard(t, with(session(token, 0, ""), session(10, 0, ""), session(20, 0, "")), token >= 1 && token < 10)
		decideBoard(t, with(session(10, 0, ""), session(token, 0, ""), session(20, 0, "")), token > 10 && token < 20)
		decideBoard(t, with(session(10, 0, ""), session(20, 0, ""), session(token, 0, "")), token > 20 && token <= 1000000)
	}
}

func TestBoardOkPlans(t *testing.T) {
	for count := range 6 {
		var plans []impl.Plan
		for at := range count {
			plans = append(plans, planOf(named(string(rune('a'+at)), handDag())))
		}
		decideBoard(t, boardOf(plans), count <= 2)
	}
	refuseBoard(t, impl.Board{Plans: make([]impl.Plan, 1<<16)})
	// by their names alone, byte by byte, a beginning being less
	for _, known := range []struct{ less, more string }{{"a", "b"}, {"a", "aa"}, {"ann", "ann0"}, {"ann", "anna"}, {"b2", "b3"}, {"b10", "b2"}, {"az", "b"}, {"a9", "aa"}, {"abcdefgh", "abcdefgi"}, {"z", "z0"}, {"ann", "bob"}} {
		first, second := named(known.less, handDag()), named(known.more, diamond())
		acceptBoard(t, boardOf(plansOf(first, second)))
		acceptBoard(t, boardOf(plansOf(named(known.less, diamond()), named(known.more, handDag()))))
		refuseBoard(t, boardOf(plansOf(second, first)))
		refuseBoard(t, boardOf(plansOf(first, first)))
		refuseBoard(t, boardOf(plansOf(first, named(known.less, diamond()))))
	}
	for _, d := range wrongDags() {
		refuseBoard(t, boardOf(plansOf(d)))
		refuseBoard(t, boardOf(plansOf(named("a", handDag()), d)))
		refuseBoard(t, boardOf(plansOf(d, named("z", handDag()))))
		if d.Name == "ann" {
			refuseBoard(t, boardOf(plansOf(d), runOf(d, make([]impl.State, len(d.Tasks))...)))
		}
	}
	for _, list := range rightGraphs() {
		for at, d := range list {
			// of the many, some are enough
			if at%7 == 0 {
				acceptBoard(t, boardOf(plansOf(d)))
				acceptBoard(t, boardOf(plansOf(d, named("z", d))))
			}
		}
	}
}

func TestBoardOkCursorAndFloor(t *testing.T) {
	edges := []int{math.MinInt64, -1 << 32, -2, -1, 0, 1, 2, 99, 100, 101, 599, 600, 601, 68374078, 68374079, 68374080, 68374081, 68374082, 1 << 32, 1<<32 + 100, math.MaxInt64}
	for _, ends := range [][2]int{{0, 0}, {0, 600}, {0, 68374079}, {1, 1}, {100, 100}, {100, 600}, {600, 600}, {68374078, 68374079}, {68374079, 68374079}} {
		d := dag("ann", "0 * * * *", ends[0], ends[1], true, one("a"))
		for place := range 2 {
			look := func(p impl.Plan, want bool) {
				t.Helper()
				plans := []impl.Plan{p, planOf(named("bob", handDag()))}
				if place == 1 {
					plans = []impl.Plan{planOf(named("al", handDag())), p}
				}
				decideBoard(t, boardOf(plans), want)
			}
			for _, edge := range edges {
				for _, paused := range []bool{false, true} {
					look(impl.Plan{Dag: d, Paused: paused, Cursor: edge, Floor: ends[0]}, edge >= ends[0] && edge <= 68374080)
					look(impl.Plan{Dag: d, Paused: paused, Cursor: ends[0], Floor: edge}, edge >= ends[0] && edge <= 68374079)
					look(impl.Plan{Dag: d, Paused: paused, Cursor: edge, Floor: edge}, edge >= ends[0] && edge <= 68374079)
				}
			}
		}
	}
}

// so many runs that wait, an hour each
func hoursOf(d impl.Dag, from, count int) []impl.Run {
	var runs []impl.Run
	for at := range count {
		runs = append(runs, hour(d, from+60*at, make([]int, len(d.Tasks))...))
	}
	return runs
}

func TestBoardOkHowManyRuns(t *testing.T) {
	ann, bob := handDag(), named("bob", diamond())
	for count := range 12 {
		acceptBoard(t, boardOf(plansOf(ann, bob)))
		decideBoard(t, boardOf(plansOf(ann), hoursOf(ann, 0, count)...), count <= 8)
		for first := range count + 1 {
			runs := append(hoursOf(ann, 0, first), hoursOf(bob, 0, count-first)...)
			decideBoard(t, boardOf(plansOf(ann, bob), runs...), count <= 8)
		}
	}
	refuseBoard(t, boardOf(plansOf(ann), hoursOf(ann, 0, 1<<16)...))
}

func TestBoardOkOrderOfRuns(t *testing.T) {
	ann, bob := handDag(), named("bob", handDag())
	look := func(want bool, runs ...impl.Run) {
		t.Helper()
		decideBoard(t, boardOf(plansOf(ann, bob), runs...), want)
	}
	a0, a1, a2 := hour(ann, 0, 0, 0), hour(ann, 60, 0, 0), hour(ann, 120, 0, 0)
	b0, b1 := hour(bob, 0, 0, 0), hour(bob, 60, 0, 0)
	look(true, a0, a1)
	look(false, a1, a0)
	look(false, a0, a0)
	look(true, a0, b0)
	look(false, b0, a0)
	look(true, a2, b0)
	look(true, a1, b0)
	look(false, b0, a1)
	look(false, b0, a2)
	look(true, a0, a1, a2, b0, b1)
	look(true, a0, a2, b1)
	look(false, a0, b0, a1)
	look(false, a0, a1, a1)
	look(false, a0, a0, a1)
	look(false, a0, a1, a0)
	look(false, a0, b0, b0)
	look(false, a0, b1, b0)
	look(false, a0, b0, a0)
	look(false, b0, b1, a0)
	// From alone counts, whatever their To, states and Epoch
	long, late := hour(ann, 0, 0, 0), hour(ann, 1, 2, 2)
	long.Span.To, late.Epoch = 6000, 9
	look(true, long, late)
	look(true, long, a1)
	look(false, late, long)
	look(false, a0, long)
	look(false, long, a0)
	done := hour(ann, 0, 2, 2)
	done.Epoch = 1
	look(false, a0, done)
	look(false, done, a0)
}

func TestBoardOkRunsAndTheirPlans(t *testing.T) {
	ann, bob := handDag(), named("bob", diamond())
	acceptBoard(t, boardOf(plansOf(ann), hour(ann, 0, 0, 0)))
	acceptBoard(t, boardOf(plansOf(bob), hour(bob, 0, 0, 0, 0, 0)))
	acceptBoard(t, boardOf(plansOf(ann, bob), hour(ann, 0, 0, 0), hour(bob, 0, 0, 0, 0, 0)))
	// without a plan, first, between and last
	refuseBoard(t, boardOf(nil, hour(ann, 0, 0, 0)))
	refuseBoard(t, boardOf(nil, impl.Run{}))
	refuseBoard(t, boardOf(plansOf(ann), hour(bob, 0, 0, 0, 0, 0)))
	refuseBoard(t, boardOf(plansOf(bob), hour(ann, 0, 0, 0)))
	for _, name := range []string{"", "a", "an", "annn", "Ann", "ann ", "b", "bo", "bobb", "az", "z", "\xff", "ann\x00"} {
		other := named(name, handDag())
		refuseBoard(t, boardOf(plansOf(ann, bob), hour(other, 0, 0, 0)))
		refuseBoard(t, boardOf(plansOf(ann, bob), hour(other, 0, 0, 0), hour(ann, 0, 0, 0)))
		refuseBoard(t, boardOf(plansOf(ann, bob), hour(ann, 0, 0, 0), hour(other, 0, 0, 0)))
		refuseBoard(t, boardOf(plansOf(ann, bob), hour(ann, 0, 0, 0), hour(other, 0, 0, 0), hour(bob, 0, 0, 0, 0, 0)))
		refuseBoard(t, boardOf(plansOf(ann, bob), hour(bob, 0, 0, 0, 0, 0), hour(other, 0, 0, 0)))
	}
	// the plan's own: what would be right for the other one is not
	refuseBoard(t, boardOf(plansOf(ann, bob), hour(ann, 0, 0, 0, 0, 0)))
	refuseBoard(t, boardOf(plansOf(ann, bob), hour(bob, 0, 0, 0)))
	refuseBoard(t, boardOf(plansOf(ann, bob), hour(ann, 0, 0, 0), hour(bob, 0, 0, 0)))
}

// a run that is broken in any way of its own chapter, first, between and last
func TestBoardOkWrongRuns(t *testing.T) {
	ann, bob := handDag(), named("bob", diamond())
	rights, wrongs := 0, 0
	look := func(change func(r *impl.Run)) {
		t.Helper()
		for place := range 4 {
			b := boardOf(plansOf(ann, bob), hour(ann, 0, 2, 0), hour(ann, 60, 0, 0), hour(bob, 0, 3, 4, 4, 4), hour(bob, 60, 2, 1, 0, 0))
			acceptBoard(t, b)
			change(&b.Runs[place])
			right := plainRunOk(b.Plans[place/2].Dag, b.Runs[place])
			if right && plainBoardOk(b) {
				rights++
			} else {
				wrongs++
			}
			wantBoardOk(t, b, plainBoardOk(b))
			if !right {
				refuseBoard(t, b)
			}
		}
	}
	for _, s := range wrongSpans() {
		look(func(r *impl.Run) { r.Span = s })
	}
	for _, epoch := range []int{math.MinInt64, -1, 0, 1, 1000, 1001, math.MaxInt64} {
		look(func(r *impl.Run) { r.Epoch = epoch })
	}
	for _, count := range []int{0, 1, 2, 3, 4, 5, 1 << 12} {
		look(func(r *impl.Run) { r.Tasks = make([]impl.State, count) })
	}
	numbers := []int{math.MinInt64, -1, 0, 1, 2, 3, 4, 5, 51, 68374179, 68374180, 1000000001, math.MaxInt64}
	for i := range 2 {
		for _, number := range numbers {
			look(func(r *impl.Run) { r.Tasks[i].Is = number })
			look(func(r *impl.Run) { r.Tasks[i].Tries = number })
			look(func(r *impl.Run) { r.Tasks[i].Token = number })
			look(func(r *impl.Run) { r.Tasks[i].Until = number })
		}
		for is := range 5 {
			look(func(r *impl.Run) { r.Tasks[i] = states(is)[0] })
			look(func(r *impl.Run) { r.Tasks[i] = state(is, 0, 20, 0) })
		}
	}
	if rights < 60 || wrongs < 200 {
		t.Errorf("%d are right, and %d are not", rights, wrongs)
	}
}

func TestBoardOkRunsAndTheFloor(t *testing.T) {
	for _, floor := range []int{0, 1, 59, 60, 61, 600, 601, 100000, 68374077, 68374078} {
		for place := range 2 {
			for _, from := range []int{floor - 61, floor - 60, floor - 2, floor - 1, floor, floor + 1, floor + 60, 68374078} {
				ann, bob := handDag(), named("bob", handDag())
				plans := plansOf(ann, bob)
				plans[place].Floor = floor
				r := hour(plans[place].Dag, from, 0, 0)
				r.Span.To = min(from+60, 68374079)
				// what is below the other plan's Floor is no matter
				plans[1-place].Floor = 68374079
				want := from >= floor && from >= 0 && from < 68374079
				decideBoard(t, boardOf(plans, r), want)
				// behind a right one of the same plan, and ahead of one
				if first := hour(plans[place].Dag, floor, 2, 2); from > floor {
					first.Span.To = floor + 1
					decideBoard(t, boardOf(plans, first, r), want)
				} else if last := hour(plans[place].Dag, floor+1, 2, 2); floor < 68374078 {
					last.Span.To = floor + 2
					decideBoard(t, boardOf(plans, r, last), want)
				}
			}
		}
	}
	// neither the Cursor nor the plan's From and To have a part in it
	d := dag("ann", "0 * * * *", 50, 50, true, one("a"))
	for _, from := range []int{49, 50, 51, 500, 68374078} {
		r := hour(d, from, 0)
		r.Span.To = 68374079
		for _, cursor := range []int{50, 51, 400, 68374080} {
			decideBoard(t, boardOf([]impl.Plan{{Dag: d, Cursor: cursor, Floor: 50}}, r), from >= 50)
		}
	}
}

func TestBoardOkTokens(t *testing.T) {
	wide := func(name string) impl.Dag {
		return named(name, dagOf(task("a", "wide", 0, false), task("b", "wide", 0, false), task("c", "wide", 0, false)))
	}
	ann, bob := wide("ann"), wide("bob")
	// two tasks that run: in one run, in two of one plan, and in two of two plans
	for _, known := range []struct {
		runs  []impl.Run
		tasks [2][2]int
	}{
		{[]impl.Run{hour(ann, 0, 1, 1, 0)}, [2][2]int{{0, 0}, {0, 1}}},
		{[]impl.Run{hour(ann, 0, 1, 0, 1)}, [2][2]int{{0, 0}, {0, 2}}},
		{[]impl.Run{hour(ann, 0, 2, 1, 1), hour(bob, 0, 0, 0, 0)}, [2][2]int{{0, 1}, {0, 2}}},
		{[]impl.Run{hour(ann, 0, 1, 0, 0), hour(ann, 60, 0, 1, 0)}, [2][2]int{{0, 0}, {1, 1}}},
		{[]impl.Run{hour(ann, 0, 1, 0, 0), hour(ann, 60, 0, 0, 0), hour(ann, 120, 1, 0, 0)}, [2][2]int{{0, 0}, {2, 0}}},
		{[]impl.Run{hour(ann, 0, 0, 1, 0), hour(bob, 0, 0, 1, 0)}, [2][2]int{{0, 1}, {1, 1}}},
		{[]impl.Run{hour(ann, 0, 0, 0, 1), hour(ann, 60, 0, 0, 0), hour(bob, 600, 0, 0, 0), hour(bob, 660, 1, 0, 0)}, [2][2]int{{0, 2}, {3, 0}}},
	} {
		for _, tokens := range []int{0, 1, 2, 3, 9, 10, 11, 1000000, 999999990, 999999991, 999999992} {
			for _, pair := range [][2]int{{1, 2}, {2, 1}, {1, 1}, {2, 2}, {9, 10}, {10, 9}, {10, 10}, {1, 10}, {10, 1}, {1, 1000000}, {999999991, 999999990}, {999999991, 999999991}, {1, 999999992}, {1000000000, 1}} {
				b := boardOf(plansOf(ann, bob), known.runs...)
				b.Tokens = tokens
				for at, place := range known.tasks {
					b.Runs[place[0]].Tasks[place[1]].Token = pair[at]
				}
				decideBoard(t, b, pair[0] != pair[1] && pair[0] <= tokens && pair[1] <= tokens && tokens <= 999999991)
			}
		}
	}
	// three and four at once
	b := boardOf(plansOf(ann, bob), hour(ann, 0, 1, 1, 0), hour(bob, 0, 0, 1, 1))
	acceptBoard(t, b)
	for _, list := range kindsOf(4, 1, 4) {
		for at, place := range [][2]int{{0, 0}, {0, 1}, {1, 1}, {1, 2}} {
			b.Runs[place[0]].Tasks[place[1]].Token = list[at]
		}
		alike := len(slices.Compact(slices.Sorted(slices.Values(list)))) < 4
		for tokens := range 6 {
			b.Tokens = tokens
			decideBoard(t, b, !alike && tokens >= 4)
		}
	}
}

func TestBoardOkTokensAndClock(t *testing.T) {
	boards := []impl.Board{{}, boardOf(plansOf(handDag()), hour(handDag(), 0, 0, 0)), fullBoard()}
	for at, b := range boards {
		least := 2 * (at / 2)
		for _, tokens := range []int{math.MinInt64, -1 << 32, -1000000000, -2, -1, 0, 1, 2, 3, 1000, 999999989, 999999990, 999999991, 999999992, 999999993, 999999999, 1000000000, 1000000001, 1 << 32, 1<<32 + 5, math.MaxInt64} {
			b := copyBoard(b)
			b.Tokens = tokens
			decideBoard(t, b, tokens >= least && tokens <= 999999991)
		}
		for _, clock := range []int{math.MinInt64, -1 << 32, -2, -1, 0, 1, 2, 1000, 68374078, 68374079, 68374080, 68374081, 68374179, 1 << 32, 1<<32 + 5, math.MaxInt64} {
			b := copyBoard(b)
			b.Clock = clock
			decideBoard(t, b, clock >= 0 && clock <= 68374079)
		}
	}
}

// of a plan MaxActive run at most, over however many runs
func TestBoardOkActive(t *testing.T) {
	wide := dagOf(task("a", "wide", 0, false), task("b", "wide", 0, false), task("c", "wide", 0, false), task("d", "wide", 0, false))
	mixed := dagOf(task("a", "one", 0, false), task("b", "two", 0, false), task("c", "wide", 0, false), task("d", "wide", 0, false))
	for _, ann := range []impl.Dag{wide, mixed} {
		bob := named("bob", wide)
		for _, kinds := range kindsOf(4, 0, 1) {
			count := kinds[0] + kinds[1] + kinds[2] + kinds[3]
			decideBoard(t, boardOf(plansOf(ann), hour(ann, 0, kinds...)), count <= 2)
			// one task in each of four runs
			var runs []impl.Run
			for at, is := range kinds {
				tasks := make([]int, 4)
				tasks[at] = is
				runs = append(runs, hour(ann, 60*at, tasks...))
			}
			decideBoard(t, boardOf(plansOf(ann), runs...), count <= 2)
			// two in each of two runs
			decideBoard(t, boardOf(plansOf(ann), hour(ann, 0, kinds[0], kinds[1], 0, 0), hour(ann, 60, 0, 0, kinds[2], kinds[3])), count <= 2)
			// those of another plan do not count
			decideBoard(t, boardOf(plansOf(ann, bob), hour(ann, 0, kinds[0], kinds[1], 0, 0), hour(bob, 0, 0, 0, kinds[2], kinds[3])), true)
			decideBoard(t, boardOf(plansOf(ann, bob), hour(ann, 0, 0, 0, kinds[2], kinds[3]), hour(bob, 0, kinds[0], kinds[1], 1, 0)), kinds[0]+kinds[1] <= 1)
		}
	}
}

// of a pool PoolSize run at most, over however many runs and plans
func TestBoardOkPools(t *testing.T) {
	of := func(name, pool string) impl.Dag {
		return named(name, dagOf(task("a", pool, 0, false), task("b", pool, 0, false)))
	}
	for _, pools := range [][2]string{{"one", "one"}, {"one", "two"}, {"two", "one"}, {"two", "two"}, {"two", "wide"}, {"wide", "two"}, {"wide", "wide"}, {"one", "wide"}, {"wide", "one"}} {
		ann, bob := of("ann", pools[0]), of("bob", pools[1])
		for _, kinds := range kindsOf(4, 0, 1) {
			for _, runs := range [][]impl.Run{
				{hour(ann, 0, kinds[0], kinds[1]), hour(bob, 0, kinds[2], kinds[3])},
				{hour(ann, 0, kinds[0], 0), hour(ann, 60, 2, kinds[1]), hour(bob, 0, kinds[2], kinds[3])},
				{hour(ann, 0, kinds[0], 0), hour(ann, 60, kinds[1], 0), hour(bob, 0, 0, kinds[2]), hour(bob, 60, kinds[3], 0)},
			} {
				used := map[string]int{}
				used[pools[0]] += kinds[0] + kinds[1]
				used[pools[1]] += kinds[2] + kinds[3]
				decideBoard(t, boardOf(plansOf(ann, bob), runs...), used["one"] <= 1 && used["two"] <= 2 && used["wide"] <= 4)
			}
		}
	}
	// what waits, is done, failed or blocked uses nothing
	ann := dagOf(task("a", "one", 0, false), task("b", "one", 0, false, "a"))
	for _, known := range [][]int{{0, 0}, {2, 0}, {2, 2}, {2, 3}, {3, 4}, {3, 3}, {0, 3}} {
		acceptBoard(t, boardOf(plansOf(ann), hour(ann, 0, known...), hour(ann, 60, 1, 0), hour(ann, 120, known...)))
		refuseBoard(t, boardOf(plansOf(ann), hour(ann, 0, 1, 0), hour(ann, 60, known...), hour(ann, 120, 1, 0)))
	}
}

func TestPlanAt(t *testing.T) {
	ann, bob := handDag(), named("bob", diamond())
	none := []string{"", "a", "an", "annn", "Ann", "ann ", " ann", "ann\x00", "bo", "bobb", "c", "\xff", strings.Repeat("ann", 9000)}
	for _, known := range []struct {
		plans []impl.Plan
		ann   int
		bob   int
	}{
		{nil, -1, -1}, {plansOf(ann), 0, -1}, {plansOf(bob), -1, 0}, {plansOf(ann, bob), 0, 1},
		// boards that are not right: another order, a name that stands twice, more plans, a plan that is not right
		{plansOf(bob, ann), 1, 0}, {plansOf(ann, ann, bob, bob), 0, 2}, {plansOf(bob, bob, bob), -1, 0},
		{plansOf(impl.Dag{Name: "x"}, impl.Dag{Name: "y"}, ann, bob), 2, 3}, {plansOf(impl.Dag{Name: "bob"}, ann), 1, 0},
	} {
		for _, runs := range [][]impl.Run{nil, {hour(ann, 0, 0, 0)}, {hour(bob, 0, 0, 0, 0, 0), hour(ann, 0, 0, 0)}} {
			b := boardOf(known.plans, runs...)
			wantPlanAt(t, b, "ann", known.ann)
			wantPlanAt(t, b, "bob", known.bob)
			for _, name := range none {
				wantPlanAt(t, b, name, -1)
			}
		}
	}
	// a name is a text, whichever it is
	for at, name := range none {
		plans := plansOf(ann)
		for _, other := range none {
			plans = append(plans, planOf(named(other, ann)))
		}
		wantPlanAt(t, impl.Board{Plans: plans}, name, at+1)
	}
	// neither a task's nor a pool's
	wantPlanAt(t, fullBoard(), "a", -1)
	wantPlanAt(t, fullBoard(), "one", -1)
}

func TestRunAt(t *testing.T) {
	ann, bob := handDag(), named("bob", diamond())
	b := boardOf(plansOf(ann, bob), hour(ann, 0, 2, 2), hour(ann, 60, 2, 1), hour(ann, 180, 0, 0), hour(bob, 60, 0, 0, 0, 0), hour(bob, 240, 0, 0, 0, 0))
	acceptBoard(t, b)
	want := map[string]map[int]int{"ann": {0: 0, 60: 1, 180: 2}, "bob": {60: 3, 240: 4}}
	froms := []int{math.MinInt64, -1 << 32, -60, -1, 0, 1, 59, 60, 61, 119, 120, 121, 179, 180, 181, 240, 241, 300, 68374079, 1 << 32, 1<<32 + 60, math.MaxInt64}
	for _, name := range []string{"ann", "bob", "", "an", "annn", "ann ", "boc", "a", "\xff"} {
		for _, from := range froms {
			at, there := want[name][from]
			if !there {
				at = -1
			}
			wantRunAt(t, b, name, from, at)
			for _, empty := range []impl.Board{{}, impl.BoardNew(), boardOf(plansOf(ann, bob)), {Runs: []impl.Run{}}} {
				wantRunAt(t, empty, name, from, -1)
			}
		}
	}
	// no plan is asked for, nor that anything is right: the first one counts
	for _, from := range froms {
		b := impl.Board{Runs: []impl.Run{{}, {Dag: "x", Span: span(from, 5)}, {Dag: "x", Span: span(from, 9)}, {Dag: "y", Span: span(from, -9)}}}
		wantRunAt(t, b, "x", from, 1)
		wantRunAt(t, b, "y", from, 3)
		wantRunAt(t, b, "z", from, -1)
		wantRunAt(t, b, "", 0, 0)
		wantRunAt(t, b, "", 5, -1)
	}
}

func TestPastOf(t *testing.T) {
	ann, bob := handDag(), named("bob", handDag())
	// the first run of a plan has nothing ahead of it
	for _, kinds := range kindsOf(2, 0, 4) {
		for _, plans := range [][]impl.Plan{plansOf(ann, bob), plansOf(bob), nil} {
			b := boardOf(plans, hour(ann, 0, kinds...), hour(bob, 0, kinds...))
			for _, i := range allPlaces() {
				wantPast(t, b, 0, i, true)
				wantPast(t, b, 1, i, true)
			}
			// the second one has it, in each state; others stand ahead, between and behind
			others := hour(bob, 600, 2, 2)
			for _, runs := range [][]impl.Run{
				{hour(ann, 0, kinds...), hour(ann, 60, 0, 0)},
				{hour(ann, 0, kinds...), hour(ann, 60, 0, 0), others},
				{others, hour(ann, 0, kinds...), hour(ann, 60, 0, 0)},
				{hour(ann, 0, kinds...), others, hour(ann, 60, 0, 0)},
				{others, hour(ann, 0, kinds...), others, others, hour(ann, 60, 0, 0), others},
				// not the one ahead of that
				{hour(ann, 0, 2, 0), hour(ann, 30, kinds...), hour(ann, 60, 0, 0)},
				{hour(ann, 0, 0, 2), hour(ann, 30, kinds...), hour(ann, 60, 0, 0)},
				// nor the one behind it, nor by its From, but by its place
				{hour(ann, 90, kinds...), hour(ann, 60, 0, 0), hour(ann, 0, 0, 2)},
				{hour(ann, 60, kinds...), hour(ann, 60, 0, 0), hour(ann, 60, 2, 0)},
			} {
				k := slices.IndexFunc(runs, func(r impl.Run) bool {
					return r.Dag == "ann" && r.Span.From == 60 && slices.Equal(r.Tasks, states(0, 0))
				})
				if runs[0].Span.From == 60 {
					k = 1
				}
				b := boardOf(plans, runs...)
				wantPast(t, b, k, 0, kinds[0] == 2)
				wantPast(t, b, k, 1, kinds[1] == 2)
				for _, i := range append(placesOfNone(), 2, 3) {
					wantPast(t, b, k, i, false)
				}
			}
		}
	}
	// a place that is none
	b := boardOf(plansOf(ann, bob), hour(ann, 0, 2, 2), hour(ann, 60, 2, 2), hour(bob, 0, 2, 2))
	for _, k := range append(slices.DeleteFunc(placesOfNone(), func(k int) bool { return k >= 0 && k < 3 }), 3) {
		for _, i := range allPlaces() {
			wantPast(t, b, k, i, false)
		}
	}
	for _, empty := range []impl.Board{{}, impl.BoardNew(), {Runs: []impl.Run{}}} {
		for _, k := range allPlaces() {
			wantPast(t, empty, k, 0, false)
		}
	}
	// a run without tasks ahead, and one with more of them
	b = boardOf(nil, hour(ann, 0), hour(ann, 60, 2, 2), hour(ann, 120, 2, 2, 2, 2, 2, 2, 0), hour(ann, 180))
	for i := range 8 {
		wantPast(t, b, 1, i, false)
		wantPast(t, b, 2, i, i < 2)
		wantPast(t, b, 3, i, i < 6)
	}
	// what is none of the five states is not done
	for _, is := range []int{math.MinInt64, -1 << 32, -2, -1, 5, 6, 258, 1<<32 + 2, math.MaxInt64} {
		wantPast(t, boardOf(plansOf(ann), hour(ann, 0, is, 2), hour(ann, 60, 0, 0)), 1, 0, false)
	}
}

func TestUsedByAndActiveOf(t *testing.T) {
	ann := dagOf(task("a", "one", 0, false), task("b", "two", 0, false), task("c", "wide", 0, false), task("d", "wide", 0, false))
	bob := named("bob", dagOf(task("a", "wide", 0, false), task("b", "two", 0, false)))
	for _, known := range []struct {
		runs           []impl.Run
		one, two, wide int
		ann, bob       int
	}{
		{nil, 0, 0, 0, 0, 0},
		{[]impl.Run{hour(ann, 0, 0, 0, 0, 0)}, 0, 0, 0, 0, 0},
		{[]impl.Run{hour(ann, 0, 1, 0, 0, 0)}, 1, 0, 0, 1, 0},
		{[]impl.Run{hour(ann, 0, 0, 1, 0, 0)}, 0, 1, 0, 1, 0},
		{[]impl.Run{hour(ann, 0, 0, 0, 1, 0)}, 0, 0, 1, 1, 0},
		{[]impl.Run{hour(ann, 0, 0, 0, 0, 1)}, 0, 0, 1, 1, 0},
		{[]impl.Run{hour(ann, 0, 2, 3, 1, 1)}, 0, 0, 2, 2, 0},
		{[]impl.Run{hour(ann, 0, 2, 2, 1, 0), hour(ann, 60, 0, 1, 0, 0)}, 0, 1, 1, 2, 0},
		{[]impl.Run{hour(bob, 0, 1, 1)}, 0, 1, 1, 0, 2},
		{[]impl.Run{hour(ann, 0, 0, 1, 1, 0), hour(bob, 0, 1, 0)}, 0, 1, 2, 2, 1},
		{[]impl.Run{hour(ann, 0, 0, 0, 1, 0), hour(ann, 60, 0, 0, 1, 0), hour(bob, 0, 1, 0), hour(bob, 60, 1, 0)}, 0, 0, 4, 2, 2},
		{[]impl.Run{hour(ann, 0, 2, 1, 0, 0), hour(bob, 0, 0, 1), hour(bob, 60, 1, 0)}, 0, 2, 1, 1, 2},
		// what is done, failed or blocked does not run
		{[]impl.Run{hour(ann, 0, 2, 3, 2, 3), hour(ann, 60, 3, 3, 3, 3), hour(bob, 0, 2, 0)}, 0, 0, 0, 0, 0},
		// more than may be
		{[]impl.Run{hour(ann, 0, 1, 1, 1, 1), hour(ann, 60, 1, 1, 1, 1), hour(bob, 0, 1, 1)}, 2, 3, 5, 8, 2},
		{[]impl.Run{hour(bob, 0, 1, 1), hour(ann, 60, 1, 1, 1, 1), hour(bob, 0, 1, 1)}, 1, 3, 4, 4, 4},
	} {
		for _, paused := range []bool{false, true} {
			b := boardOf(plansOf(ann, bob), known.runs...)
			b.Plans[0].Paused = paused
			wantUsed(t, b, "one", known.one)
			wantUsed(t, b, "two", known.two)
			wantUsed(t, b, "wide", known.wide)
			wantActive(t, b, "ann", known.ann)
			wantActive(t, b, "bob", known.bob)
			for _, name := range []string{"", "a", "an", "annn", "bo", "on", "onee", "ONE", "one ", "three", "d", "\xff"} {
				wantUsed(t, b, name, 0)
				wantActive(t, b, name, 0)
			}
			// a pool is no plan, and a plan no pool
			wantUsed(t, b, "ann", 0)
			wantActive(t, b, "wide", 0)
		}
	}
	// what is of no plan, or of no task of it, is of no pool, but it runs; a pool that has no size has tasks all the same
	b := boardOf(plansOf(ann), hour(bob, 0, 1, 1), hour(ann, 0, 0, 0, 0, 0, 1), hour(ann, 60, 0, 1))
	wantUsed(t, b, "one", 0)
	wantUsed(t, b, "two", 1)
	wantUsed(t, b, "wide", 0)
	wantUsed(t, b, "", 0)
	wantActive(t, b, "bob", 2)
	wantActive(t, b, "ann", 2)
	odd := dagOf(task("a", "", 0, false), task("b", "many", 0, false))
	wantUsed(t, boardOf(plansOf(odd), hour(odd, 0, 1, 1), hour(odd, 60, 0, 1)), "many", 2)
	wantUsed(t, boardOf(plansOf(odd), hour(odd, 0, 1, 1), hour(odd, 60, 0, 1)), "", 1)
	// of plans with one name the first one counts
	b = boardOf(plansOf(named("bob", ann), bob), hour(bob, 0, 1, 0))
	wantUsed(t, b, "one", 1)
	wantUsed(t, b, "wide", 0)
}

// one task that is due, on a board of two plans; each of its conditions broken by itself
func TestNextTaskConditions(t *testing.T) {
	ann := dagOf(task("a", "one", 3, false), task("b", "two", 3, true, "a"))
	bob := named("bob", dagOf(task("c", "one", 0, false), task("d", "two", 0, false), task("e", "wide", 0, false), task("f", "wide", 0, false)))
	fresh := func() impl.Board {
		return boardOf(plansOf(ann, bob), hour(ann, 0, 2, 2), hour(ann, 60, 2, 0))
	}
	acceptBoard(t, fresh())
	wantNextTask(t, fresh(), 1, 1)
	// its state
	for is := range 5 {
		b := fresh()
		b.Runs[1].Tasks[1] = states(is)[0]
		if is == 0 {
			wantNextTask(t, b, 1, 1)
		} else {
			wantIdle(t, b)
		}
	}
	// Until, held against the Clock
	for _, clock := range []int{0, 1, 100, 101, 68374078, 68374079} {
		for _, until := range []int{0, 1, 99, 100, 101, 102, 68374079, 68374080, 68374179} {
			b := fresh()
			b.Clock = clock
			b.Runs[1].Tasks[1].Until = until
			acceptBoard(t, b)
			if until <= clock {
				wantNextTask(t, b, 1, 1)
			} else {
				wantIdle(t, b)
			}
		}
	}
	// what is ahead of it
	for is := range 4 {
		b := boardOf(plansOf(ann, bob), hour(ann, 0, 2, 2), hour(ann, 60, is, 0))
		switch is {
		case 0:
			wantNextTask(t, b, 1, 0)
		case 1, 3:
			wantIdle(t, b)
		case 2:
			wantNextTask(t, b, 1, 1)
		}
	}
	// the run ahead, as it is Past; of another plan none is
	for _, is := range []int{0, 1, 2, 3} {
		b := boardOf(plansOf(ann, bob), hour(ann, 0, 2, is), hour(ann, 60, 2, 0))
		// where it waits, it is not due itself
		b.Runs[0].Tasks[1].Until = 500
		acceptBoard(t, b)
		if is == 2 {
			wantNextTask(t, b, 1, 1)
		} else {
			wantIdle(t, b)
		}
	}
	free := copyDag(ann)
	free.Tasks[1].Past = false
	for _, is := range []int{1, 2, 3} {
		wantNextTask(t, boardOf(plansOf(free, bob), hour(ann, 0, 2, is), hour(ann, 60, 2, 0)), 1, 1)
	}
	wantNextTask(t, boardOf(plansOf(ann), hour(ann, 60, 2, 0)), 0, 1)
	// a plan that is Paused, and another one that is
	for paused := range 4 {
		b := fresh()
		b.Plans[0].Paused, b.Plans[1].Paused = paused&1 == 1, paused&2 == 2
		if paused&1 == 1 {
			wantIdle(t, b)
		} else {
			wantNextTask(t, b, 1, 1)
		}
	}
	// no plan at all, and nothing but the other one
	b := fresh()
	b.Plans = nil
	wantIdle(t, b)
	b.Plans = plansOf(bob)
	wantIdle(t, b)
}

// a plan that has MaxActive, and a pool that is full
func TestNextTaskLimits(t *testing.T) {
	ann := dagOf(task("a", "wide", 0, false), task("b", "wide", 0, false), task("c", "wide", 0, false))
	bob := named("bob", dagOf(task("c", "one", 0, false), task("d", "two", 0, false), task("e", "wide", 0, false), task("f", "wide", 0, false)))
	wantNextTask(t, boardOf(plansOf(ann), hour(ann, 0, 0, 0, 0)), 0, 0)
	wantNextTask(t, boardOf(plansOf(ann), hour(ann, 0, 1, 0, 0)), 0, 1)
	wantNextTask(t, boardOf(plansOf(ann), hour(ann, 0, 2, 0, 1)), 0, 1)
	wantIdle(t, boardOf(plansOf(ann), hour(ann, 0, 1, 1, 0)))
	wantIdle(t, boardOf(plansOf(ann), hour(ann, 0, 1, 0, 1)))
	// in another run of the plan, ahead and behind
	wantNextTask(t, boardOf(plansOf(ann), hour(ann, 0, 2, 2, 1), hour(ann, 60, 0, 0, 0)), 1, 0)
	wantIdle(t, boardOf(plansOf(ann), hour(ann, 0, 2, 1, 1), hour(ann, 60, 0, 0, 0)))
	wantIdle(t, boardOf(plansOf(ann), hour(ann, 0, 0, 0, 0), hour(ann, 60, 1, 1, 0)))
	wantIdle(t, boardOf(plansOf(ann), hour(ann, 0, 1, 0, 0), hour(ann, 60, 1, 0, 0), hour(ann, 120, 0, 0, 0)))
	// in a run of another plan that is no matter, and the other plan goes on
	wantNextTask(t, boardOf(plansOf(ann, bob), hour(ann, 60, 0, 0, 0), hour(bob, 0, 0, 0, 1, 1)), 0, 0)
	wantNextTask(t, boardOf(plansOf(ann, bob), hour(ann, 0, 1, 1, 0), hour(bob, 60, 0, 0, 0, 0)), 1, 0)
	wantNextTask(t, boardOf(plansOf(ann, bob), hour(ann, 0, 0, 1, 1), hour(bob, 60, 2, 0, 0, 0)), 1, 1)
	// one of one, two of two, four of wide
	one, two := handDag(), named("bob", handDag())
	one.Tasks, two.Tasks = []impl.Task{task("a", "one", 0, false), task("b", "two", 0, false)}, []impl.Task{task("a", "two", 0, false), task("b", "one", 0, false)}
	for _, known := range []struct {
		runs []impl.Run
		want []int
	}{
		{[]impl.Run{hour(one, 0, 0, 0), hour(two, 0, 0, 1)}, []int{0, 1}},
		{[]impl.Run{hour(one, 0, 0, 0), hour(two, 0, 1, 0)}, []int{0, 0}},
		{[]impl.Run{hour(one, 0, 0, 0), hour(two, 0, 1, 1)}, []int{0, 1}},
		{[]impl.Run{hour(one, 0, 0, 1), hour(two, 0, 1, 0)}, []int{0, 0}},
		{[]impl.Run{hour(one, 0, 2, 1), hour(two, 0, 1, 0)}, []int{1, 1}},
		{[]impl.Run{hour(one, 0, 1, 0), hour(two, 0, 0, 0)}, []int{0, 1}},
		{[]impl.Run{hour(one, 0, 1, 1), hour(two, 0, 0, 0)}, []int{1, 0}},
		{[]impl.Run{hour(one, 0, 1, 1), hour(two, 0, 1, 0)}, nil},
		{[]impl.Run{hour(one, 0, 1, 1), hour(two, 0, 2, 0)}, nil},
		{[]impl.Run{hour(one, 0, 1, 2), hour(one, 60, 0, 1), hour(two, 0, 2, 0), hour(two, 60, 0, 0)}, []int{3, 0}},
	} {
		b := boardOf(plansOf(one, two), known.runs...)
		acceptBoard(t, b)
		if known.want == nil {
			wantIdle(t, b)
		} else {
			wantNextTask(t, b, known.want[0], known.want[1])
		}
	}
}

// four of wide run, which no right board has beside a plan with room
func TestNextTaskFullWide(t *testing.T) {
	wide := dagOf(task("a", "wide", 0, false), task("b", "wide", 0, false), task("c", "two", 0, false))
	var plans []impl.Plan
	var runs []impl.Run
	for _, name := range []string{"p", "q", "r"} {
		d := named(name, wide)
		plans = append(plans, planOf(d))
		runs = append(runs, hour(d, 60, 0, 0, 0))
	}
	// the number that run, of three plans; then nothing but c has room
	for count := range 5 {
		b := boardOf(plans, runs...)
		for at := range count {
			b.Runs[1+at/2].Tasks[at%2] = state(1, 0, 1+at, 0)
		}
		if count < 4 {
			wantNextTask(t, b, 0, 0)
		} else {
			wantNextTask(t, b, 0, 2)
		}
		wantUsed(t, b, "wide", count)
	}
}

func TestNextTaskOrder(t *testing.T) {
	ann := dagOf(task("a", "wide", 0, false), task("b", "wide", 0, false))
	bob := named("bob", ann)
	plans := plansOf(ann, bob)
	for _, known := range []struct {
		runs      []impl.Run
		run, task int
	}{
		// the least From over two plans
		{[]impl.Run{hour(ann, 0, 0, 0), hour(bob, 60, 0, 0)}, 0, 0},
		{[]impl.Run{hour(ann, 60, 0, 0), hour(bob, 0, 0, 0)}, 1, 0},
		{[]impl.Run{hour(ann, 1, 0, 0), hour(bob, 0, 0, 0)}, 1, 0},
		{[]impl.Run{hour(ann, 0, 0, 0), hour(bob, 1, 0, 0)}, 0, 0},
		{[]impl.Run{hour(ann, 0, 2, 2), hour(ann, 120, 0, 0), hour(bob, 0, 2, 2), hour(bob, 60, 0, 0), hour(bob, 180, 0, 0)}, 3, 0},
		{[]impl.Run{hour(ann, 60, 2, 0), hour(ann, 120, 0, 0), hour(bob, 0, 2, 2), hour(bob, 61, 0, 0)}, 0, 1},
		// the same From in two plans: the place in Runs
		{[]impl.Run{hour(ann, 60, 0, 0), hour(bob, 60, 0, 0)}, 0, 0},
		{[]impl.Run{hour(ann, 60, 2, 0), hour(bob, 60, 0, 0)}, 0, 1},
		{[]impl.Run{hour(ann, 60, 2, 2), hour(bob, 60, 0, 0)}, 1, 0},
		{[]impl.Run{hour(ann, 60, 2, 2), hour(ann, 120, 0, 0), hour(bob, 120, 0, 0)}, 1, 0},
		{[]impl.Run{hour(ann, 60, 1, 1), hour(ann, 120, 0, 0), hour(bob, 120, 0, 0)}, 2, 0},
		// two tasks of one run
		{[]impl.Run{hour(ann, 60, 0, 0)}, 0, 0},
		{[]impl.Run{hour(ann, 60, 1, 0)}, 0, 1},
		{[]impl.Run{hour(ann, 60, 3, 0)}, 0, 1},
		// the first run has nothing due
		{[]impl.Run{hour(ann, 0, 2, 3), hour(ann, 60, 2, 1), hour(ann, 120, 0, 0)}, 2, 0},
		{[]impl.Run{hour(ann, 0, 2, 1), hour(ann, 60, 0, 0), hour(ann, 120, 0, 0)}, 1, 0},
	} {
		b := boardOf(plans, known.runs...)
		acceptBoard(t, b)
		wantNextTask(t, b, known.run, known.task)
		lookAtDue(t, b)
	}
	// in one run by OrderOf: 1, 2, 0; then 1, 3, 0, 2
	turned := dagOf(task("x", "wide", 0, false, "z"), task("y", "wide", 0, false), task("z", "wide", 0, false))
	wantNextTask(t, boardOf(plansOf(turned), hour(turned, 0, 0, 0, 0)), 0, 1)
	wantNextTask(t, boardOf(plansOf(turned), hour(turned, 0, 0, 0, 2)), 0, 1)
	wantNextTask(t, boardOf(plansOf(turned), hour(turned, 0, 0, 2, 2)), 0, 0)
	wantNextTask(t, boardOf(plansOf(turned), hour(turned, 0, 0, 2, 0)), 0, 2)
	wantNextTask(t, boardOf(plansOf(turned), hour(turned, 0, 0, 1, 2)), 0, 0)
	long := dagOf(task("x", "two", 0, false, "z"), task("y", "one", 0, false), task("w", "two", 0, false, "x"), task("z", "two", 0, false))
	wantNextTask(t, boardOf(plansOf(long), hour(long, 0, 0, 0, 0, 2)), 0, 1)
	wantNextTask(t, boardOf(plansOf(long), hour(long, 0, 0, 1, 0, 2)), 0, 0)
	wantNextTask(t, boardOf(plansOf(long), hour(long, 0, 2, 0, 0, 2)), 0, 1)
	wantNextTask(t, boardOf(plansOf(long), hour(long, 0, 2, 2, 0, 2)), 0, 2)
	// by the From alone, whatever their To, Epoch and states
	late := hour(ann, 0, 0, 0)
	late.Span.To, late.Epoch = 68374079, 1000
	wantNextTask(t, boardOf(plans, late, hour(bob, 1, 0, 0)), 0, 0)
	// nothing is due
	wantIdle(t, boardOf(plans))
	wantIdle(t, boardOf(plans, hour(ann, 0, 2, 2), hour(ann, 60, 3, 2), hour(bob, 0, 1, 1), hour(bob, 60, 0, 0)))
}

// on boards that are not right the words hold all the same
func TestNextTaskOfWrongBoards(t *testing.T) {
	ann := dagOf(task("a", "wide", 0, false), task("b", "wide", 0, true, "a"))
	bob := named("bob", ann)
	// runs in another order, and of two plans in turn
	b := boardOf(plansOf(ann, bob), hour(bob, 120, 0, 0), hour(ann, 60, 0, 0), hour(bob, 60, 0, 0), hour(ann, 60, 0, 0))
	refuseBoard(t, b)
	wantNextTask(t, b, 1, 0)
	// the run ahead is the one ahead in Runs, with others between
	for is := range 4 {
		b = boardOf(plansOf(ann, bob), hour(ann, 500, 2, is), hour(bob, 0, 2, 2), hour(ann, 60, 2, 0))
		b.Runs[0].Tasks[1].Until = 500
		if is == 2 {
			wantNextTask(t, b, 2, 1)
		} else {
			wantIdle(t, b)
		}
	}
	// a run that is not right has nothing that is due, and the next one has
	for _, kinds := range [][]int{{0}, {0, 2}, {0, 0, 0}, {3, 0}, {5, 0}, {}} {
		wantNextTask(t, boardOf(plansOf(ann), hour(ann, 0, kinds...), hour(ann, 60, 0, 0)), 1, 0)
		wantIdle(t, boardOf(plansOf(ann), hour(ann, 0, kinds...)))
	}
	for _, s := range wrongSpans() {
		b = boardOf(plansOf(ann), impl.Run{Dag: "ann", Span: s, Tasks: states(0, 0)}, hour(ann, 60, 0, 0))
		wantNextTask(t, b, 1, 0)
	}
	// a plan that is not right has none, and nothing is there without one
	for _, d := range wrongDags() {
		r := hour(d, 0, make([]int, len(d.Tasks))...)
		wantIdle(t, boardOf(plansOf(d), r))
		wantNextTask(t, boardOf(plansOf(d, bob), r, hour(bob, 60, 0, 0)), 1, 0)
		wantIdle(t, boardOf(plansOf(d, ann), r))
	}
	wantIdle(t, boardOf(nil, hour(ann, 0, 0, 0)))
	wantIdle(t, boardOf(plansOf(bob), hour(ann, 0, 0, 0)))
	// of plans with one name the first one counts
	paused := planOf(ann)
	paused.Paused = true
	wantIdle(t, boardOf([]impl.Plan{paused, planOf(ann)}, hour(ann, 0, 0, 0)))
	wantNextTask(t, boardOf([]impl.Plan{planOf(ann), paused}, hour(ann, 0, 0, 0)), 0, 0)
	// a Clock that is none, a Floor that is above, and all else that is not asked for
	for _, clock := range []int{math.MinInt64, -1, 0, 68374079, 68374080, math.MaxInt64} {
		b = boardOf(plansOf(ann), hour(ann, 0, 0, 0))
		b.Clock = clock
		if clock < 0 {
			wantIdle(t, b)
		} else {
			wantNextTask(t, b, 0, 0)
		}
	}
	b = boardOf(plansOf(ann), hour(ann, 0, 0, 0))
	b.Plans[0].Floor, b.Plans[0].Cursor, b.Tokens, b.Sessions = 600, -5, -5, make([]impl.Session, 9)
	wantNextTask(t, b, 0, 0)
	// what runs and is of no plan uses no pool; what runs in a run that is not right does
	one := dagOf(task("a", "one", 0, false))
	wantNextTask(t, boardOf(plansOf(one), hour(named("zed", one), 0, 1), hour(one, 0, 0)), 1, 0)
	wantIdle(t, boardOf(plansOf(one), hour(one, 0, 1, 1), hour(one, 60, 0)))
	wantIdle(t, boardOf(plansOf(one), hour(one, 60, 0), hour(one, 0, 1, 0)))
	wantNextTask(t, boardOf(plansOf(one), hour(one, 0, 2, 1), hour(one, 60, 0)), 1, 0)
}

// two plans with each state of each of five tasks in three runs, and each of them Paused or not
func TestAllSmallBoards(t *testing.T) {
	ann := dagOf(task("a", "one", 1, false), task("b", "two", 0, true, "a"))
	bob := named("bob", dagOf(task("c", "one", 0, false)))
	rights, dues, gone := 0, 0, 0
	for at, kinds := range kindsOf(5, 0, 4) {
		for paused := range 4 {
			b := boardOf(plansOf(ann, bob), hour(ann, 60, kinds[0], kinds[1]), hour(ann, 120, kinds[2], kinds[3]), hour(bob, 60+30*(at%4), kinds[4]))
			b.Plans[0].Paused, b.Plans[1].Paused = paused&1 == 1, paused&2 == 2
			for k := range b.Runs {
				for i := range b.Runs[k].Tasks {
					b.Runs[k].Tasks[i].Until = 99 + (at+k+i)%3
				}
			}
			if !lookAtBoard(t, b) {
				continue
			}
			rights++
			if lookAtDue(t, b) {
				dues++
			}
			gone += lookAtSwept(t, b)
		}
	}
	// of a run of ann 10 states of its two tasks are right, in 2 of which a runs, and of bob 4, in one of which c does: of these three one at most; a run of ann is over in 4
	if want := 4 * (8*8*3 + 2*8*3 + 8*2*3 + 8*8*1); rights != want {
		t.Errorf("%d boards are right, not %d", rights, want)
	}
	if want := 4 * (4 * 4 * 4); gone != want || dues < 200 {
		t.Errorf("%d runs are gone, not %d; on %d boards something is due", gone, want, dues)
	}
}

// a board on which one plan's runs are over or not, an hour each, from the minute 600 on
func overBoard(d impl.Dag, over ...bool) impl.Board {
	var runs []impl.Run
	for at, is := range over {
		kind := 0
		if is {
			kind = 2
		}
		runs = append(runs, hour(d, 600+60*at, slices.Repeat([]int{kind}, len(d.Tasks))...))
	}
	return boardOf(plansOf(d), runs...)
}

func TestKnownSweeps(t *testing.T) {
	const yes, no = true, false
	for _, known := range []struct {
		over  []bool
		gone  int
		floor int
	}{
		{nil, 0, 0},
		{[]bool{no}, 0, 0}, {[]bool{yes}, 0, 0},
		{[]bool{no, no}, 0, 0}, {[]bool{yes, no}, 0, 0}, {[]bool{no, yes}, 0, 0}, {[]bool{yes, yes}, 1, 660},
		{[]bool{yes, no, no}, 0, 0}, {[]bool{yes, no, yes}, 0, 0}, {[]bool{no, yes, yes}, 0, 0}, {[]bool{no, yes, no}, 0, 0}, {[]bool{no, no, yes}, 0, 0},
		{[]bool{yes, yes, no}, 1, 660}, {[]bool{yes, yes, yes}, 2, 720}, {[]bool{yes, yes, no, yes, yes}, 1, 660}, {[]bool{yes, yes, yes, no, yes}, 2, 720},
		{[]bool{no, yes, yes, yes, yes, yes, yes, yes}, 0, 0}, {[]bool{yes, no, yes, yes, yes, yes, yes, yes}, 0, 0},
		{[]bool{yes, yes, yes, yes, yes, yes, yes, no}, 6, 960}, {[]bool{yes, yes, yes, yes, yes, yes, yes, yes}, 7, 1020},
	} {
		for _, d := range []impl.Dag{dagOf(one("a")), handDag(), chain(), diamond()} {
			b := overBoard(d, known.over...)
			acceptBoard(t, b)
			want := copyBoard(b)
			want.Runs = want.Runs[known.gone:]
			want.Plans[0].Floor = known.floor
			wantSweep(t, b, want)
			wantSweep(t, want, want)
			acceptBoard(t, want)
			if gone := lookAtSwept(t, b); gone != known.gone {
				t.Fatalf("%d of %v are gone, not %d", gone, known.over, known.gone)
			}
		}
	}
}

// one to eight runs of one plan, over and not over in every mix
func TestSweepMixes(t *testing.T) {
	d := dagOf(one("a"), one("b"))
	for count := range 9 {
		for mix := range 1 << count {
			var over []bool
			lead := 0
			for at := range count {
				over = append(over, mix>>at&1 == 1)
				if lead == at && over[at] {
					lead++
				}
			}
			b := overBoard(d, over...)
			// what is not over waits or runs, alone or beside what is over
			for k := range b.Runs {
				if !over[k] {
					b.Runs[k].Tasks = [][]impl.State{states(0, 0), states(2, 0), states(0, 3), states(0, 2)}[(mix+k)%4]
				}
			}
			acceptBoard(t, b)
			want := copyBoard(b)
			if lead > 1 {
				want.Runs, want.Plans[0].Floor = want.Runs[lead-1:], 600+60*(lead-1)
			}
			wantSweep(t, b, want)
			lookAtBoard(t, b)
			lookAtSwept(t, b)
			// whether it is Paused, what the Clock is and how far the Cursor is have no part in it
			b.Plans[0].Paused, b.Plans[0].Cursor, b.Clock = true, 68374080, 0
			want.Plans[0].Paused, want.Plans[0].Cursor, want.Clock = true, 68374080, 0
			wantSweep(t, b, want)
		}
	}
}

// a run is over in each way that its tasks can stand, and what has one that waits or runs is not
func TestSweepStates(t *testing.T) {
	d := diamond()
	for _, kinds := range kindsOf(4, 0, 4) {
		isOver := !slices.Contains(kinds, 0) && !slices.Contains(kinds, 1)
		first := boardOf(plansOf(d), hour(d, 0, kinds...), hour(d, 60, 2, 2, 2, 2))
		second := boardOf(plansOf(d), hour(d, 0, 3, 4, 4, 4), hour(d, 60, kinds...))
		for _, b := range []impl.Board{first, second} {
			want := copyBoard(b)
			if isOver {
				want.Runs, want.Plans[0].Floor = want.Runs[1:], 60
			}
			wantSweep(t, b, want)
			if plainBoardOk(b) {
				lookAtSwept(t, b)
			}
		}
	}
	// no task at all is over, too
	b := boardOf(plansOf(d), hour(d, 0), hour(d, 60), hour(d, 120))
	want := copyBoard(b)
	want.Runs, want.Plans[0].Floor = want.Runs[2:], 120
	wantSweep(t, b, want)
	// and what is none of the five states neither waits nor runs
	b = boardOf(plansOf(d), hour(d, 0, 5, -1), hour(d, 60, math.MinInt64, math.MaxInt64))
	want = copyBoard(b)
	want.Runs, want.Plans[0].Floor = want.Runs[1:], 60
	wantSweep(t, b, want)
}

// the runs of two plans, and of none, over and not over, one plan's between the other's
func TestSweepOfTwoPlans(t *testing.T) {
	ann, bob, cid := dagOf(one("a")), named("bob", dagOf(one("a"))), named("cid", dagOf(one("a")))
	plans := plansOf(ann, bob)
	plans[0].Floor, plans[1].Floor = 10, 20
	for count := range 6 {
		for _, mix := range kindsOf(count, 0, 5) {
			var runs []impl.Run
			for at, kind := range mix {
				runs = append(runs, hour([]impl.Dag{ann, bob, cid}[kind%3], 60*at, []int{0, 2}[kind/3]))
			}
			b := boardOf(plans, runs...)
			wantSweep(t, b, plainSweep(b))
			swept := impl.Sweep(b)
			wantSweep(t, swept, swept)
		}
	}
	look := func(runs []impl.Run, left []int, floors [2]int) {
		t.Helper()
		b := boardOf(plans, runs...)
		want := copyBoard(b)
		want.Runs = nil
		for _, k := range left {
			want.Runs = append(want.Runs, b.Runs[k])
		}
		want.Plans[0].Floor, want.Plans[1].Floor = floors[0], floors[1]
		wantSweep(t, b, want)
	}
	look([]impl.Run{hour(ann, 60, 2), hour(ann, 120, 2), hour(bob, 60, 2), hour(bob, 120, 2)}, []int{1, 3}, [2]int{120, 120})
	look([]impl.Run{hour(ann, 60, 2), hour(bob, 60, 2), hour(bob, 120, 2)}, []int{0, 2}, [2]int{10, 120})
	look([]impl.Run{hour(ann, 60, 2), hour(bob, 60, 2)}, []int{0, 1}, [2]int{10, 20})
	look([]impl.Run{hour(ann, 60, 0), hour(ann, 120, 2), hour(bob, 60, 2), hour(bob, 120, 3), hour(bob, 180, 0)}, []int{0, 1, 3, 4}, [2]int{10, 120})
	look([]impl.Run{hour(ann, 60, 2), hour(bob, 60, 0), hour(ann, 120, 2), hour(bob, 120, 2), hour(ann, 180, 2)}, []int{1, 3, 4}, [2]int{180, 20})
	look([]impl.Run{hour(ann, 60, 2), hour(bob, 60, 2), hour(ann, 120, 2), hour(bob, 120, 2), hour(ann, 180, 0)}, []int{2, 3, 4}, [2]int{120, 120})
	look([]impl.Run{hour(bob, 60, 2), hour(ann, 60, 2), hour(ann, 120, 2), hour(bob, 120, 2)}, []int{2, 3}, [2]int{120, 120})
	look([]impl.Run{hour(cid, 60, 2), hour(cid, 120, 2), hour(ann, 60, 2), hour(ann, 120, 2)}, []int{0, 1, 3}, [2]int{120, 20})
}

// the Floor is the To of what is gone, when that is more
func TestSweepFloor(t *testing.T) {
	d := dagOf(one("a"))
	for _, floor := range []int{math.MinInt64, -1, 0, 1, 59, 60, 119, 120, 121, 179, 180, 181, 239, 240, 241, 68374079, 68374080, math.MaxInt64} {
		for over := range 5 {
			b := overBoard(d, true, true, true, true)
			for k := range b.Runs {
				b.Runs[k].Span = span(60*k+60, 60*k+120)
				if k >= over {
					b.Runs[k].Tasks[0].Is = 0
				}
			}
			b.Plans[0].Floor = floor
			want := copyBoard(b)
			if over > 1 {
				want.Runs, want.Plans[0].Floor = want.Runs[over-1:], max(floor, 60*over)
			}
			wantSweep(t, b, want)
		}
	}
	// behind several that are gone it is the greatest To, wherever that is
	for _, ends := range ordersOf(4) {
		b := overBoard(d, true, true, true, true)
		for k := range b.Runs {
			b.Runs[k].Span = span(k, 100+ends[k])
		}
		acceptBoard(t, b)
		want := copyBoard(b)
		want.Runs, want.Plans[0].Floor = want.Runs[3:], 100+max(ends[0], ends[1], ends[2])
		wantSweep(t, b, want)
		// a span that reaches beyond the begin of the next one takes the Floor with it, by the chapter's words
		refuseBoard(t, want)
	}
	// the last minute
	b := boardOf(plansOf(d), impl.Run{Dag: "ann", Span: span(68374076, 68374077), Tasks: states(2)}, impl.Run{Dag: "ann", Span: span(68374077, 68374078), Tasks: states(2)}, impl.Run{Dag: "ann", Span: span(68374078, 68374079), Tasks: states(3)})
	acceptBoard(t, b)
	want := copyBoard(b)
	want.Runs, want.Plans[0].Floor = want.Runs[2:], 68374078
	wantSweep(t, b, want)
	acceptBoard(t, want)
	// times that are none
	for _, s := range wrongSpans() {
		b := boardOf(plansOf(d), impl.Run{Dag: "ann", Span: s, Tasks: states(2)}, hour(d, 60, 2))
		want := copyBoard(b)
		want.Runs, want.Plans[0].Floor = want.Runs[1:], max(0, s.To)
		wantSweep(t, b, want)
	}
}

// a board with nothing to sweep is the same, and of any other all else stays
func TestSweepLeavesAllElse(t *testing.T) {
	for _, b := range []impl.Board{{}, impl.BoardNew(), fullBoard(), {Clock: -5, Tokens: math.MinInt64}, {Clock: math.MaxInt64, Tokens: math.MaxInt64}, {Runs: make([]impl.Run, 3)}, {Plans: make([]impl.Plan, 3)}, {Sessions: make([]impl.Session, 9)}} {
		wantSweep(t, b, b)
	}
	ann, bob := handDag(), named("bob", diamond())
	for _, sessions := range [][]impl.Session{nil, {session(1, 2, "x")}, {session(5, 0, ""), session(4, -3, longText(5000)), session(4, 1, ""), {}, {}}} {
		b := boardOf(plansOf(ann, bob), hour(ann, 0, 2, 2), hour(ann, 60, 2, 3), hour(ann, 120, 2, 1), hour(bob, 0, 2, 1, 3, 4))
		b.Sessions, b.Clock, b.Tokens = sessions, 777, 888
		b.Runs[1].Epoch, b.Runs[1].Tasks[1].Tries, b.Runs[1].Tasks[0].Until = 17, 4, 99
		b.Plans[1] = impl.Plan{Dag: bob, Paused: true, Cursor: 123, Floor: 0}
		want := copyBoard(b)
		want.Runs, want.Plans[0].Floor = want.Runs[1:], 60
		wantSweep(t, b, want)
	}
	// plans in another order, and more of them, and two with one name: the first one's Floor rises
	b := boardOf(plansOf(bob, ann, impl.Dag{}, ann), hour(ann, 0, 2, 2), hour(bob, 0, 2, 2, 2, 2), hour(ann, 60, 2, 3), hour(bob, 60, 2, 2, 2, 2))
	want := copyBoard(b)
	want.Runs, want.Plans[0].Floor, want.Plans[1].Floor = want.Runs[2:], 60, 60
	wantSweep(t, b, want)
	// runs without a name are of a plan without one
	b = impl.Board{Plans: []impl.Plan{{}}, Runs: []impl.Run{{Span: span(0, 9)}, {Span: span(5, 7)}, {Span: span(6, 8)}}}
	want = copyBoard(b)
	want.Runs, want.Plans[0].Floor = want.Runs[2:], 9
	wantSweep(t, b, want)
	// and without a plan they are left
	b.Plans = nil
	wantSweep(t, b, b)
}

// a board that is right, drawn; some of its runs are over from the first one on
func drawnBoard(d *draw) impl.Board {
	b := impl.Board{Clock: []int{0, 1, 60, 68374079, d.below(200), d.below(200), d.below(68374080)}[d.below(7)]}
	token := 0
	for range d.below(4) {
		token += []int{1, 2, 1 + d.below(300000)}[d.below(3)]
		s := session(token, []int{0, 1, 1000000, d.below(1000001)}[d.below(4)], "")
		if s.Last > 0 {
			s.Reply = longText([]int{0, 60, d.below(61)}[d.below(3)])
		}
		b.Sessions = append(b.Sessions, s)
	}
	for len(b.Plans) < []int{0, 1, 2, 2, 2, 2}[d.below(6)] {
		p := drawnPlan(d)
		if plainPlanAt(b, p.Dag.Name) < 0 {
			b.Plans = append(b.Plans, p)
		}
	}
	slices.SortFunc(b.Plans, func(x, y impl.Plan) int { return cmp.Compare(x.Dag.Name, y.Dag.Name) })
	most := 8
	for at, p := range b.Plans {
		count := d.below(most + 1)
		if at == len(b.Plans)-1 && d.below(3) == 0 {
			count = most
		}
		for _, s := range drawnHours(d, p.Floor, count) {
			b.Runs = append(b.Runs, impl.Run{Dag: p.Dag.Name, Span: s, Epoch: []int{0, 0, 1, 1000}[d.below(4)]})
			most--
		}
	}
	drawStates(d, &b)
	drawTokens(d, &b)
	return b
}

// the plan begins early, so that there is time for runs behind its Floor
func drawnPlan(d *draw) impl.Plan {
	p := planOf(drawnDag(d))
	if d.below(4) > 0 {
		p.Dag.From = d.below(min(p.Dag.To, 30) + 1)
	}
	p.Paused = d.below(5) == 0
	p.Cursor = []int{p.Dag.From, 68374080, p.Dag.From + d.below(68374081-p.Dag.From)}[d.below(3)]
	p.Floor = []int{p.Dag.From, min(p.Dag.From+d.below(40), 68374079), min(p.Dag.From+d.below(40), 68374079), 68374079 - d.below(min(400, 68374080-p.Dag.From))}[d.below(4)]
	return p
}

// spans one behind the other, with time between or none, as many of them as there is time for
func drawnHours(d *draw, from, count int) []impl.Span {
	var list []impl.Span
	for range count {
		from += []int{0, 0, 1, d.below(30)}[d.below(4)]
		to := from + []int{1, 30, 1 + d.below(60)}[d.below(3)]
		if to > 68374079 {
			break
		}
		list = append(list, span(from, to))
		from = to
	}
	return list
}

// states that are right for their plans, with no more running than may be
func drawStates(d *draw, b *impl.Board) {
	calm := map[string]bool{}
	for k := range b.Runs {
		r := &b.Runs[k]
		plan := b.Plans[plainPlanAt(*b, r.Dag)].Dag
		r.Tasks = make([]impl.State, len(plan.Tasks))
		// as long as all of its plan that are ahead are over, it is likely to be, too
		over := !calm[r.Dag] && d.below(3) > 0
		calm[r.Dag] = !over
		for _, i := range plainOrder(plan) {
			ahead := plainAhead(plan, *r, i)
			kinds := []int{0, 0, 0, 3}
			switch {
			case ahead[3]+ahead[4] > 0:
				kinds = []int{4, 4, 3}
			case over:
				kinds = []int{2, 2, 2, 3}
			case ahead[2] == len(plan.Tasks[i].After) && plainActive(*b, r.Dag) < 2 && plainUsed(*b, plan.Tasks[i].Pool) < plainSize(plan.Tasks[i].Pool):
				kinds = []int{0, 0, 0, 1, 2, 2, 2, 3}
			case ahead[2] == len(plan.Tasks[i].After):
				kinds = []int{0, 0, 2, 2}
			}
			until := []int{0, 0, 0, b.Clock, b.Clock, b.Clock, b.Clock + 1, d.below(68374180)}[d.below(8)]
			r.Tasks[i] = state(kinds[d.below(len(kinds))], d.below(plan.Tasks[i].Retries+2), 0, until)
		}
	}
}

// each task that runs has a Token, and none another's
func drawTokens(d *draw, b *impl.Board) {
	b.Tokens = []int{4, 5, 1000, 999999991, 4 + d.below(1000)}[d.below(5)]
	seen := map[int]bool{}
	for _, r := range b.Runs {
		for i := range r.Tasks {
			if r.Tasks[i].Is != 1 {
				continue
			}
			token := 1 + d.below(b.Tokens)
			for seen[token] {
				token = 1 + token%b.Tokens
			}
			seen[token] = true
			r.Tasks[i].Token = token
		}
	}
	if len(seen) == 0 {
		b.Tokens = []int{0, 1, b.Tokens}[d.below(3)]
	}
}

func TestDrawnBoards(t *testing.T) {
	d := draw(1015)
	dues, swept, gone, full := 0, 0, 0, 0
	for range 4000 {
		b := drawnBoard(&d)
		if !lookAtBoard(t, b) {
			t.Fatalf("%s is drawn, and not right", tellBoard(b))
		}
		if lookAtDue(t, b) {
			dues++
		}
		if n := lookAtSwept(t, b); n > 0 {
			swept++
			gone += n
		}
		if len(b.Runs) == 8 {
			full++
		}
	}
	if dues < 1000 || swept < 1000 || gone < 2000 || full < 500 {
		t.Errorf("on %d something is due, of %d are %d runs swept, %d are full", dues, swept, gone, full)
	}
}

// a right board of which one thing is another one
func TestDrawnWrongBoards(t *testing.T) {
	d := draw(2015)
	numbers := []int{math.MinInt64, -1, 0, 1, 2, 3, 4, 5, 8, 9, 60, 1000, 1001, 1000000, 1000001, 68374079, 68374080, 68374081, 68374180, 999999991, 999999992, 1000000000, 1000000001, math.MaxInt64}
	rights := 0
	for range 8000 {
		b := copyBoard(drawnBoard(&d))
		number := numbers[d.below(len(numbers))]
		switch d.below(5) {
		case 0:
			b.Clock = number
			if d.below(2) == 0 {
				b.Clock, b.Tokens = 5, number
			}
		case 1:
			changeSession(&d, &b, number)
		case 2:
			changePlan(&d, &b, number)
		case 3:
			changeRun(&d, &b, number)
		case 4:
			changeState(&d, &b, number)
		}
		if !lookAtBoard(t, b) {
			continue
		}
		rights++
		lookAtDue(t, b)
		lookAtSwept(t, b)
	}
	if rights < 1500 || rights > 6500 {
		t.Errorf("%d of 8000 are right", rights)
	}
}

func changeSession(d *draw, b *impl.Board, number int) {
	if len(b.Sessions) == 0 || d.below(6) == 0 {
		b.Sessions = append(b.Sessions, session(number, 1, "x"))
		return
	}
	s := &b.Sessions[d.below(len(b.Sessions))]
	switch d.below(4) {
	case 0:
		s.Token = number
	case 1:
		s.Last = number
	case 2:
		s.Reply = longText(d.below(70))
	case 3:
		s.Token = b.Sessions[d.below(len(b.Sessions))].Token
	}
}

func changePlan(d *draw, b *impl.Board, number int) {
	if len(b.Plans) == 0 || d.below(6) == 0 {
		b.Plans = append(b.Plans, drawnPlan(d))
		return
	}
	p := &b.Plans[d.below(len(b.Plans))]
	wrong := wrongDags()
	switch d.below(7) {
	case 0:
		p.Cursor = number
	case 1:
		p.Floor = number
	case 2:
		p.Dag.Name = []string{"", "a", "zz", b.Plans[d.below(len(b.Plans))].Dag.Name}[d.below(4)]
	case 3:
		p.Dag.From = number
	case 4:
		p.Dag.Tasks = wrong[d.below(len(wrong))].Tasks
	case 5:
		p.Dag = drawnDag(d)
	case 6:
		slices.Reverse(b.Plans)
	}
}

func changeRun(d *draw, b *impl.Board, number int) {
	if len(b.Runs) == 0 {
		b.Runs = append(b.Runs, impl.Run{Dag: "ann", Span: span(0, number)})
		return
	}
	at, other := d.below(len(b.Runs)), d.below(len(b.Runs))
	r := &b.Runs[at]
	switch d.below(7) {
	case 0:
		r.Span.From = number
	case 1:
		r.Span.To = number
	case 2:
		r.Epoch = number
	case 3:
		r.Dag = []string{"", "ann", b.Runs[other].Dag}[d.below(3)]
	case 4:
		b.Runs[at], b.Runs[other] = b.Runs[other], b.Runs[at]
	case 5:
		b.Runs = slices.Insert(b.Runs, at, copyRun(b.Runs[other]))
	case 6:
		r.Tasks = append(r.Tasks, states(d.below(5))...)
	}
}

func changeState(d *draw, b *impl.Board, number int) {
	if len(b.Runs) == 0 {
		b.Tokens = number
		return
	}
	tasks := b.Runs[d.below(len(b.Runs))].Tasks
	s := &tasks[d.below(len(tasks))]
	switch d.below(5) {
	case 0:
		*s = state(1, 0, 1+d.below(max(b.Tokens, 1)), 0)
	case 1:
		s.Is = number
	case 2:
		s.Token = number
	case 3:
		s.Until = number
	case 4:
		*s = state(d.below(5), 0, 0, 0)
	}
}

// what is told as next is begun, ends well or not, and is swept, again and again, on a board that stays right throughout
func TestBoardLives(t *testing.T) {
	d := draw(3015)
	begun, gone, idle := 0, 0, 0
	for range 200 {
		b := copyBoard(drawnBoard(&d))
		b.Clock, b.Tokens = min(b.Clock, 68370000), 1
		for k, r := range b.Runs {
			b.Runs[k], _ = impl.RunNew(b.Plans[impl.PlanAt(b, r.Dag)].Dag, r.Span)
		}
		kept := copyBoard(b)
		for range 100 {
			switch d.below(6) {
			case 0, 1:
				if !lookAtDue(t, b) {
					idle++
					break
				}
				k, i, _ := impl.NextTask(b)
				b.Tokens++
				b.Runs[k], _ = impl.Begin(b.Runs[k], i, b.Tokens, b.Clock+impl.Lease)
				begun++
			case 2, 3, 4:
				for k, r := range b.Runs {
					i := d.below(len(r.Tasks))
					if next, ok := impl.Finish(b.Plans[impl.PlanAt(b, r.Dag)].Dag, r, i, d.below(6) > 0, b.Clock); ok {
						b.Runs[k] = next
					}
				}
			case 5:
				b.Clock += d.below(20)
				gone += lookAtSwept(t, b)
				b = impl.Sweep(b)
			}
			wantBoardOk(t, b, true)
			// what is gone stays gone, and the Floor never falls
			for at := range b.Plans {
				if b.Plans[at].Floor < kept.Plans[at].Floor {
					t.Fatalf("the Floor falls, from %s to %s", tellBoard(kept), tellBoard(b))
				}
			}
			for _, r := range b.Runs {
				if impl.RunAt(kept, r.Dag, r.Span.From) < 0 {
					t.Fatalf("%s has come back, from %s to %s", tellRun(r), tellBoard(kept), tellBoard(b))
				}
			}
			kept = copyBoard(b)
		}
	}
	if begun < 1000 || gone < 200 || idle < 200 {
		t.Errorf("%d times something is begun, %d runs are gone, %d times nothing is due", begun, gone, idle)
	}
}

// one plan's runs to their end, by hand: a day of three hours
func TestABoardsDay(t *testing.T) {
	ann := dagOf(task("a", "one", 0, false), task("b", "two", 0, true, "a"))
	b := boardOf(plansOf(ann), hoursOf(ann, 0, 3)...)
	step := func(k, i int, good bool) {
		t.Helper()
		wantNextTask(t, b, k, i)
		b.Tokens++
		b.Runs[k], _ = impl.Begin(b.Runs[k], i, b.Tokens, b.Clock+impl.Lease)
		acceptBoard(t, b)
		b.Runs[k], _ = impl.Finish(ann, b.Runs[k], i, good, b.Clock)
		acceptBoard(t, b)
	}
	step(0, 0, true)
	step(0, 1, true)
	wantSweep(t, b, b)
	step(1, 0, true)
	step(1, 1, true)
	b = impl.Sweep(b)
	if len(b.Runs) != 2 || b.Plans[0].Floor != 60 {
		t.Fatalf("swept it is %s", tellBoard(b))
	}
	step(1, 0, true)
	step(1, 1, false)
	b = impl.Sweep(b)
	if len(b.Runs) != 1 || b.Plans[0].Floor != 120 || b.Runs[0].Tasks[1].Is != 3 {
		t.Fatalf("swept it is %s", tellBoard(b))
	}
	wantIdle(t, b)
	// b of the next hour waits for b of the one ahead, which is failed, until that is cleared and done
	b.Runs = append(b.Runs, hour(ann, 180, 0, 0))
	step(1, 0, true)
	wantIdle(t, b)
	wantSweep(t, b, b)
	b.Runs[0], _ = impl.ClearTask(ann, b.Runs[0], 1)
	step(0, 1, true)
	step(1, 1, true)
	b = impl.Sweep(b)
	if len(b.Runs) != 1 || b.Plans[0].Floor != 180 {
		t.Fatalf("swept it is %s", tellBoard(b))
	}
}

func strangeNumber(d *draw) int {
	numbers := []int{math.MinInt64, math.MinInt64 + 1, -1 << 32, -5, -1, 0, 0, 0, 1, 1, 2, 2, 3, 4, 5, 60, 1000, 1000000, 68374079, 68374080, 68374180, 999999991, 1000000000, 1 << 32, math.MaxInt64 - 1, math.MaxInt64}
	return numbers[d.below(len(numbers))]
}

func strangeText(d *draw) string {
	texts := []string{"", "ann", "ann", "ann", "bob", "bob", "a", "\xff", strings.Repeat("ann", 500)}
	return texts[d.below(len(texts))]
}

// plans that are not right, and not great either, made once
var smallWrongDags = sync.OnceValue(func() []impl.Dag {
	return slices.DeleteFunc(wrongDags(), func(d impl.Dag) bool { return len(d.Tasks) > 10 })
})

// a board of any fields and lists; now and then it is right
func strangeBoard(d *draw) impl.Board {
	wrong := smallWrongDags()
	b := impl.Board{Clock: strangeNumber(d), Tokens: strangeNumber(d)}
	for range d.below(3) * d.below(3) {
		b.Sessions = append(b.Sessions, session(strangeNumber(d), strangeNumber(d), strangeText(d)))
	}
	for range d.below(5) {
		p := impl.Plan{Paused: d.below(4) == 0, Cursor: strangeNumber(d), Floor: strangeNumber(d)}
		switch d.below(4) {
		case 0:
			p.Dag = wrong[d.below(len(wrong))]
		case 1, 2:
			p.Dag = named(strangeText(d), []impl.Dag{handDag(), diamond(), chain(), dagOf(one("a"))}[d.below(4)])
		case 3:
			p.Dag = drawnDag(d)
		}
		b.Plans = append(b.Plans, p)
	}
	for range d.below(13) {
		b.Runs = append(b.Runs, strangeRun(d, b.Plans))
	}
	return b
}

// a run, most often one of these plans
func strangeRun(d *draw, plans []impl.Plan) impl.Run {
	r := impl.Run{Dag: strangeText(d), Span: span(strangeNumber(d), strangeNumber(d)), Epoch: strangeNumber(d)}
	size := d.below(6)
	if len(plans) > 0 && d.below(3) > 0 {
		p := plans[d.below(len(plans))]
		r.Dag, size = p.Dag.Name, len(p.Dag.Tasks)
		from := d.below(5)
		r.Span, r.Epoch = span(from, from+1+d.below(3)), 0
	}
	for range size {
		s := state(strangeNumber(d), strangeNumber(d), strangeNumber(d), strangeNumber(d))
		if d.below(4) > 0 {
			s = states([]int{0, 0, 2, 2, 1, 3}[d.below(6)])[0]
		}
		r.Tasks = append(r.Tasks, s)
	}
	return r
}

func TestStrangeBoards(t *testing.T) {
	d := draw(4015)
	rights := 0
	for range 5000 {
		b := strangeBoard(&d)
		if lookAtBoard(t, b) {
			rights++
		}
		k, i, from, name := strangeNumber(&d), strangeNumber(&d), strangeNumber(&d), strangeText(&d)
		wantPast(t, b, k, i, plainPast(b, k, i))
		wantRunAt(t, b, name, from, plainRunAt(b, name, from))
		wantPlanAt(t, b, name, plainPlanAt(b, name))
		wantActive(t, b, name, plainActive(b, name))
		wantUsed(t, b, name, plainUsed(b, name))
	}
	if rights < 20 || rights > 2500 {
		t.Errorf("%d of 5000 are right", rights)
	}
}

// lists that are far too long are gone through, too
func TestGreatBoards(t *testing.T) {
	const many = 1 << 14
	ann := dagOf(task("a", "one", 0, false), task("b", "wide", 0, true, "a"))
	runs := make([]impl.Run, many)
	for k := range runs {
		runs[k] = impl.Run{Dag: "ann", Span: span(many-k, many+2), Tasks: states(2, 2)}
	}
	b := impl.Board{Plans: plansOf(ann), Runs: runs, Sessions: make([]impl.Session, many)}
	wantBoardOk(t, b, false)
	wantIdle(t, b)
	wantPast(t, b, many-1, 1, true)
	wantRunAt(t, b, "ann", 1, many-1)
	want := impl.Board{Plans: plansOf(ann), Runs: runs[many-1:], Sessions: b.Sessions}
	want.Plans[0].Floor = many + 2
	wantSweep(t, b, want)
	b = copyBoard(b)
	for k := range b.Runs {
		b.Runs[k].Tasks = states(2, 0)
	}
	// Past holds of the first one alone
	wantNextTask(t, b, 0, 1)
	b.Runs[0].Tasks[1].Until = 5
	wantIdle(t, b)
	for k := range b.Runs {
		b.Runs[k].Tasks[1].Is = 1
	}
	wantUsed(t, b, "wide", many)
	wantActive(t, b, "ann", many)
	wantIdle(t, b)
	// as many plans, and tasks
	b = impl.Board{Plans: make([]impl.Plan, many)}
	for at := range b.Plans {
		b.Plans[at] = planOf(named(fmt.Sprint("p", at), ann))
	}
	b.Runs = []impl.Run{hour(b.Plans[many-1].Dag, 60, 0, 0), {Dag: "ann", Tasks: make([]impl.State, many)}}
	wantBoardOk(t, b, false)
	wantPlanAt(t, b, fmt.Sprint("p", many-1), many-1)
	wantNextTask(t, b, 0, 0)
	wantSweep(t, b, b)
}

// a board whose lists have spare room behind them, and whether they and that room are as they were
func roomyBoard(b impl.Board) (impl.Board, func() bool) {
	sessions := append(make([]impl.Session, 0, len(b.Sessions)+4), b.Sessions...)
	plans := append(make([]impl.Plan, 0, len(b.Plans)+4), b.Plans...)
	runs := append(make([]impl.Run, 0, len(b.Runs)+4), b.Runs...)
	var looks []func() bool
	for at := range sessions[len(sessions):cap(sessions)] {
		sessions[len(sessions):cap(sessions)][at] = session(-at, at, "room")
	}
	for at := range plans[:cap(plans)] {
		p := &plans[:cap(plans)][at]
		if at >= len(plans) {
			*p = impl.Plan{Dag: dagOf(one("room")), Cursor: -at, Floor: at}
		}
		roomy, untouched := roomyDag(copyDag(p.Dag))
		p.Dag = roomy
		looks = append(looks, untouched)
	}
	for at := range runs[:cap(runs)] {
		r := &runs[:cap(runs)][at]
		if at >= len(runs) {
			*r = impl.Run{Dag: "room", Epoch: -at, Tasks: states(0, 1)}
		}
		roomy, untouched := roomyRun(*r)
		*r = roomy
		looks = append(looks, untouched)
	}
	now := impl.Board{Sessions: sessions[:cap(sessions)], Plans: plans[:cap(plans)], Runs: runs[:cap(runs)], Clock: b.Clock, Tokens: b.Tokens}
	before := copyBoard(now)
	looks = append(looks, func() bool { return sameBoard(now, before) })
	b.Sessions, b.Plans, b.Runs = sessions, plans, runs
	return b, func() bool {
		return !slices.ContainsFunc(looks, func(look func() bool) bool { return !look() })
	}
}

func scribbleBoard(b impl.Board) {
	for _, p := range b.Plans {
		scribbleDag(p.Dag)
	}
	for _, r := range b.Runs {
		scribbleRun(r)
	}
	for at := range b.Sessions[:cap(b.Sessions)] {
		b.Sessions[:cap(b.Sessions)][at] = session(-7, -7, "scribble")
	}
	for at := range b.Plans[:cap(b.Plans)] {
		b.Plans[:cap(b.Plans)][at] = impl.Plan{Dag: dagOf(one("scribble")), Cursor: -7}
	}
	for at := range b.Runs[:cap(b.Runs)] {
		b.Runs[:cap(b.Runs)][at] = impl.Run{Dag: "scribble", Epoch: -7}
	}
}

// all that is answered of a board without a list
func boardNumbers(b impl.Board) []int {
	flag := func(is bool) int {
		if is {
			return 1
		}
		return 0
	}
	run, task, ok := impl.NextTask(b)
	list := []int{flag(impl.BoardOk(b)), run, task, flag(ok)}
	for _, name := range append(namesOn(b), poolsOn(b)...) {
		list = append(list, impl.PlanAt(b, name), impl.RunAt(b, name, 60), impl.UsedBy(b, name), impl.ActiveOf(b, name))
	}
	for k := -1; k <= len(b.Runs); k++ {
		for i := -1; i < 5; i++ {
			list = append(list, flag(impl.PastOf(b, k, i)))
		}
	}
	return list
}

// boards whose lists are looked at for what they share
func sharedBoards() []impl.Board {
	d := draw(5015)
	ann := handDag()
	list := []impl.Board{{}, impl.BoardNew(), fullBoard(), overBoard(diamond(), true, true, true), overBoard(ann, true, false), boardOf(nil, hour(ann, 0, 2, 2), hour(ann, 60, 2, 2)), {Plans: make([]impl.Plan, 4), Runs: make([]impl.Run, 4), Sessions: make([]impl.Session, 4)}, boardOf(plansOf(ann, ann, diamond()), hour(ann, 0, 2, 2), hour(ann, 60, 2, 2), hour(ann, 60, 0, 0))}
	for range 300 {
		list = append(list, drawnBoard(&d))
	}
	return list
}

func TestBoardsAreNotWrittenInto(t *testing.T) {
	for _, from := range sharedBoards() {
		want, numbers := plainSweep(from), boardNumbers(from)
		b, untouched := roomyBoard(from)
		swept := impl.Sweep(b)
		if !sameBoard(swept, want) || !slices.Equal(boardNumbers(b), numbers) || !untouched() {
			t.Fatalf("something is written into %s", tellBoard(from))
		}
		// nothing of it is kept, and nothing of what was answered is its own
		scribbleBoard(b)
		if !sameBoard(swept, want) {
			t.Fatalf("what was swept of %s has changed to %s", tellBoard(from), tellBoard(swept))
		}
		if again := impl.Sweep(from); !sameBoard(again, want) || !slices.Equal(boardNumbers(from), numbers) {
			t.Fatalf("of %s is answered %s then", tellBoard(from), tellBoard(again))
		}
	}
}

func TestBoardsAreNewMemory(t *testing.T) {
	for _, from := range sharedBoards() {
		want := plainSweep(from)
		b, untouched := roomyBoard(from)
		first, second := impl.Sweep(b), impl.Sweep(b)
		// what is put behind one list is seen in no other
		_ = append(first.Sessions, session(-1, -1, "behind"))
		_ = append(first.Plans, planOf(dagOf(one("behind"))))
		_ = append(first.Runs, hour(handDag(), -5, 1))
		for _, p := range first.Plans {
			_ = append(p.Dag.Tasks, one("behind"))
			for _, task := range p.Dag.Tasks {
				_ = append(task.After, "behind")
			}
		}
		for _, r := range first.Runs {
			_ = append(r.Tasks, state(-1, -2, -3, -4))
		}
		if !sameBoard(first, want) || !sameBoard(second, want) || !untouched() {
			t.Fatalf("two lists of what is swept of %s share the room behind them", tellBoard(from))
		}
		// each list of one answer by itself
		for k := range first.Runs {
			scribbleRun(first.Runs[k])
			first.Runs[k].Tasks = slices.Clone(want.Runs[k].Tasks)
			if !sameBoard(first, want) {
				t.Fatalf("the tasks of run %d of what is swept of %s share memory", k, tellBoard(from))
			}
		}
		for at := range first.Plans {
			for i, task := range first.Plans[at].Dag.Tasks {
				scribbleTexts(task.After)
				first.Plans[at].Dag.Tasks[i].After = slices.Clone(want.Plans[at].Dag.Tasks[i].After)
				if !sameBoard(first, want) {
					t.Fatalf("what task %d of plan %d of what is swept of %s is After shares memory", i, at, tellBoard(from))
				}
			}
			scribbleTasks(first.Plans[at].Dag.Tasks)
			first.Plans[at].Dag.Tasks = copyDag(want.Plans[at].Dag).Tasks
			if !sameBoard(first, want) {
				t.Fatalf("the tasks of plan %d of what is swept of %s share memory", at, tellBoard(from))
			}
		}
		scribbleBoard(first)
		if !sameBoard(second, want) || !sameBoard(impl.Sweep(b), want) || !untouched() {
			t.Fatalf("what is swept of %s shares memory with it, or with another answer", tellBoard(from))
		}
	}
}

func textsOn(b impl.Board) []string {
	var list []string
	for _, s := range b.Sessions {
		list = append(list, s.Reply)
	}
	for _, p := range b.Plans {
		list = append(list, p.Dag.Name, p.Dag.Cron)
		for _, t := range p.Dag.Tasks {
			list = append(list, t.Name, t.Pool)
			list = append(list, t.After...)
		}
	}
	for _, r := range b.Runs {
		list = append(list, r.Dag)
	}
	return list
}

func TestBoardTextsAreNewMemory(t *testing.T) {
	for _, b := range sharedBoards()[:60] {
		first, second := impl.Sweep(b), impl.Sweep(b)
		old := append(textsOn(b), textsOn(second)...)
		for _, text := range textsOn(first) {
			if slices.ContainsFunc(old, func(other string) bool { return sharesBytes(text, other) }) {
				t.Fatalf("%q of what is swept of %s has bytes of it, or of another answer", text, tellBoard(b))
			}
		}
	}
}

// an empty list is nil, as it comes in and as it is answered
func TestEmptyBoardLists(t *testing.T) {
	empty := impl.Board{Sessions: []impl.Session{}, Plans: []impl.Plan{}, Runs: []impl.Run{}}
	for _, b := range []impl.Board{{}, empty} {
		acceptBoard(t, b)
		wantIdle(t, b)
		wantSweep(t, b, impl.Board{})
		wantPlanAt(t, b, "", -1)
		wantRunAt(t, b, "", 0, -1)
		wantPast(t, b, 0, 0, false)
		wantUsed(t, b, "", 0)
		wantActive(t, b, "", 0)
	}
	for _, b := range sharedBoards()[:40] {
		other := copyBoard(b)
		for at := range other.Plans {
			if len(other.Plans[at].Dag.Tasks) == 0 {
				other.Plans[at].Dag.Tasks = []impl.Task{}
			}
			for i := range other.Plans[at].Dag.Tasks {
				if after := &other.Plans[at].Dag.Tasks[i].After; len(*after) == 0 {
					*after = []string{}
				}
			}
		}
		for k := range other.Runs {
			if len(other.Runs[k].Tasks) == 0 {
				other.Runs[k].Tasks = []impl.State{}
			}
		}
		if !slices.Equal(boardNumbers(b), boardNumbers(other)) || !sameBoard(impl.Sweep(b), impl.Sweep(other)) {
			t.Fatalf("with empty lists in the place of nil %s is another one", tellBoard(b))
		}
	}
}

// what one call answers has no part in what the next one does, in whichever order they come
func TestBoardsKeepNothing(t *testing.T) {
	boards := sharedBoards()[:40]
	var numbers [][]int
	var swept []impl.Board
	for _, b := range boards {
		numbers, swept = append(numbers, boardNumbers(b)), append(swept, plainSweep(b))
	}
	for round := range 3 {
		for at := range boards {
			at = (at*7 + round*3) % len(boards)
			if !slices.Equal(boardNumbers(boards[at]), numbers[at]) {
				t.Fatalf("of %s is answered something else", tellBoard(boards[at]))
			}
			wantSweep(t, boards[at], swept[at])
		}
	}
}
