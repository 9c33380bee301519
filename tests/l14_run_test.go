package tests

import (
	"fmt"
	"math"
	"slices"
	"strings"
	"sync"
	"testing"

	"loop.example/g00188/impl"
)

func state(is, tries, token, until int) impl.State {
	return impl.State{Is: is, Tries: tries, Token: token, Until: until}
}

// states with nothing but their Is, and a Token where they are running
func states(kinds ...int) []impl.State {
	var list []impl.State
	for at, is := range kinds {
		s := impl.State{Is: is}
		if is == 1 {
			s.Token = at + 1
		}
		list = append(list, s)
	}
	return list
}

// a run of the plan in which nothing but the tasks is of interest
func runOf(d impl.Dag, tasks ...impl.State) impl.Run {
	return impl.Run{Dag: d.Name, Span: span(0, 60), Tasks: tasks}
}

func sameRun(a, b impl.Run) bool {
	return a.Dag == b.Dag && a.Span == b.Span && a.Epoch == b.Epoch && slices.Equal(a.Tasks, b.Tasks)
}

func copyRun(r impl.Run) impl.Run {
	r.Tasks = slices.Clone(r.Tasks)
	return r
}

func tellRun(r impl.Run) string {
	if len(r.Tasks) > 10 {
		return fmt.Sprintf("%+v and %d tasks more", runOf(impl.Dag{Name: r.Dag}, r.Tasks[:10]...), len(r.Tasks)-10)
	}
	return fmt.Sprintf("%+v", r)
}

// how many of what a task is After are in each of the five states
func plainAhead(d impl.Dag, r impl.Run, i int) [5]int {
	var counts [5]int
	for _, up := range plainUps(d, i) {
		if is := r.Tasks[up].Is; is >= 0 && is < 5 {
			counts[is]++
		}
	}
	return counts
}

// the chapter's words on a run of a right plan
func plainRunOk(d impl.Dag, r impl.Run) bool {
	if r.Dag != d.Name || r.Span.From < 0 || r.Span.From >= r.Span.To || r.Span.To > 68374079 || r.Epoch < 0 || r.Epoch > 1000 || len(r.Tasks) != len(d.Tasks) {
		return false
	}
	for i, s := range r.Tasks {
		ahead := plainAhead(d, r, i)
		all, stuck := ahead[2] == len(d.Tasks[i].After), ahead[3]+ahead[4] > 0
		if s.Is < 0 || s.Is > 4 || s.Tries < 0 || s.Tries > d.Tasks[i].Retries+1 || s.Until < 0 || s.Until > 68374079+100 {
			return false
		}
		if s.Is == 1 && (s.Token < 1 || s.Token > 1000000000) || s.Is != 1 && s.Token != 0 {
			return false
		}
		if !([]bool{!stuck, all, all, true, stuck}[s.Is]) {
			return false
		}
	}
	return true
}

func plainReady(d impl.Dag, right bool, r impl.Run, i int, past bool, now int) bool {
	if !right || i < 0 || i >= len(r.Tasks) {
		return false
	}
	return r.Tasks[i].Is == 0 && r.Tasks[i].Until <= now && plainAhead(d, r, i)[2] == len(d.Tasks[i].After) && (!d.Tasks[i].Past || past)
}

// what waits behind something that is stuck is blocked, again and again until nothing changes
func plainBlockRest(d impl.Dag, dagRight bool, r impl.Run) impl.Run {
	r = copyRun(r)
	if !dagRight || len(d.Tasks) != len(r.Tasks) {
		return r
	}
	for range d.Tasks {
		for i := range r.Tasks {
			if ahead := plainAhead(d, r, i); r.Tasks[i].Is == 0 && ahead[3]+ahead[4] > 0 {
				r.Tasks[i].Is, r.Tasks[i].Until = 4, 0
			}
		}
	}
	return r
}

func plainOver(r impl.Run) bool {
	over := true
	for _, s := range r.Tasks {
		over = over && s.Is != 0 && s.Is != 1
	}
	return over
}

func plainBegin(r impl.Run, i, token, until int) (impl.Run, bool) {
	if i < 0 || i >= len(r.Tasks) || r.Tasks[i].Is != 0 {
		return impl.Run{}, false
	}
	r = copyRun(r)
	r.Tasks[i].Is, r.Tasks[i].Token, r.Tasks[i].Until = 1, token, until
	return r, true
}

func plainFinish(d impl.Dag, right bool, r impl.Run, i int, good bool, now int) (impl.Run, bool) {
	if !right || i < 0 || i >= len(r.Tasks) || r.Tasks[i].Is != 1 || now < 0 || now > 68374079 {
		return impl.Run{}, false
	}
	r = copyRun(r)
	s := &r.Tasks[i]
	s.Token = 0
	switch {
	case good:
		s.Is, s.Until = 2, 0
	case s.Tries >= d.Tasks[i].Retries:
		s.Is, s.Until, s.Tries = 3, 0, d.Tasks[i].Retries+1
		r = plainBlockRest(d, true, r)
	default:
		s.Tries++
		s.Is, s.Until = 0, now+[]int{1, 2, 4, 8}[s.Tries]
	}
	return r, true
}

func plainClear(d impl.Dag, right bool, r impl.Run, i int) (impl.Run, bool) {
	if !right || i < 0 || i >= len(r.Tasks) || r.Epoch == 1000 {
		return impl.Run{}, false
	}
	ahead := plainAhead(d, r, i)
	refused := ahead[3]+ahead[4] > 0
	cleared := copyRun(r)
	for _, at := range append(plainDowns(d, i), i) {
		refused = refused || r.Tasks[at].Is == 1
		cleared.Tasks[at] = impl.State{}
	}
	if refused {
		return impl.Run{}, false
	}
	cleared.Epoch++
	return plainBlockRest(d, true, cleared), true
}

func wantRunNew(t *testing.T, d impl.Dag, s impl.Span, want impl.Run, right bool) {
	t.Helper()
	if got, ok := impl.RunNew(d, s); !sameRun(got, want) || ok != right {
		t.Fatalf("RunNew(%.300s, %v) = %s, %v, want %s, %v", tellDag(d), s, tellRun(got), ok, tellRun(want), right)
	}
}

func wantRunOk(t *testing.T, d impl.Dag, r impl.Run, want bool) {
	t.Helper()
	if got := impl.RunOk(d, r); got != want {
		t.Fatalf("RunOk(%.300s, %s) = %v", tellDag(d), tellRun(r), got)
	}
}

func wantReady(t *testing.T, d impl.Dag, r impl.Run, i int, past bool, now int, want bool) {
	t.Helper()
	if got := impl.Ready(d, r, i, past, now); got != want {
		t.Fatalf("Ready(%.300s, %s, %d, %v, %d) = %v", tellDag(d), tellRun(r), i, past, now, got)
	}
}

func wantBlockRest(t *testing.T, d impl.Dag, r impl.Run, want impl.Run) {
	t.Helper()
	if got := impl.BlockRest(d, r); !sameRun(got, want) {
		t.Fatalf("BlockRest(%.300s, %s) = %s, want %s", tellDag(d), tellRun(r), tellRun(got), tellRun(want))
	}
}

func wantOver(t *testing.T, r impl.Run, want bool) {
	t.Helper()
	if got := impl.Over(r); got != want {
		t.Fatalf("Over(%s) = %v", tellRun(r), got)
	}
}

func wantBegin(t *testing.T, r impl.Run, i, token, until int, want impl.Run, right bool) {
	t.Helper()
	if got, ok := impl.Begin(r, i, token, until); !sameRun(got, want) || ok != right {
		t.Fatalf("Begin(%s, %d, %d, %d) = %s, %v, want %s, %v", tellRun(r), i, token, until, tellRun(got), ok, tellRun(want), right)
	}
}

func wantFinish(t *testing.T, d impl.Dag, r impl.Run, i int, good bool, now int, want impl.Run, right bool) {
	t.Helper()
	if got, ok := impl.Finish(d, r, i, good, now); !sameRun(got, want) || ok != right {
		t.Fatalf("Finish(%.300s, %s, %d, %v, %d) = %s, %v, want %s, %v", tellDag(d), tellRun(r), i, good, now, tellRun(got), ok, tellRun(want), right)
	}
}

// whether it is good or not: false, and nothing beside it
func refuseFinish(t *testing.T, d impl.Dag, r impl.Run, i, now int) {
	t.Helper()
	wantFinish(t, d, r, i, true, now, impl.Run{}, false)
	wantFinish(t, d, r, i, false, now, impl.Run{}, false)
}

func wantClear(t *testing.T, d impl.Dag, r impl.Run, i int, want impl.Run, right bool) {
	t.Helper()
	if got, ok := impl.ClearTask(d, r, i); !sameRun(got, want) || ok != right {
		t.Fatalf("ClearTask(%.300s, %s, %d) = %s, %v, want %s, %v", tellDag(d), tellRun(r), i, tellRun(got), ok, tellRun(want), right)
	}
}

func refuseClear(t *testing.T, d impl.Dag, r impl.Run, i int) {
	t.Helper()
	wantClear(t, d, r, i, impl.Run{}, false)
}

// what of a right run comes is right, too
func staysRight(t *testing.T, d impl.Dag, from, to impl.Run) {
	t.Helper()
	if !impl.RunOk(d, to) {
		t.Fatalf("of %s of %s comes %s, which is not right", tellRun(from), tellDag(d), tellRun(to))
	}
}

// all that is asked of one task of a run
func lookAtTask(t *testing.T, d impl.Dag, right bool, r impl.Run, i int) {
	t.Helper()
	until := 5
	if i >= 0 && i < len(r.Tasks) {
		until = r.Tasks[i].Until
	}
	for _, past := range []bool{false, true} {
		for _, now := range []int{until - 1, until} {
			wantReady(t, d, r, i, past, now, plainReady(d, right, r, i, past, now))
		}
	}
	begun, ok := plainBegin(r, i, 77, 9)
	wantBegin(t, r, i, 77, 9, begun, ok)
	if impl.Ready(d, r, i, true, until) {
		staysRight(t, d, r, begun)
	}
	for _, good := range []bool{false, true} {
		ended, ok := plainFinish(d, right, r, i, good, 3)
		wantFinish(t, d, r, i, good, 3, ended, ok)
		if ok {
			staysRight(t, d, r, ended)
		}
	}
	cleared, ok := plainClear(d, right, r, i)
	wantClear(t, d, r, i, cleared, ok)
	if ok {
		staysRight(t, d, r, cleared)
	}
}

// all that is asked of a run, right or not, against the chapter's words done anew; whether it is right
func lookAtRun(t *testing.T, d impl.Dag, dagRight bool, r impl.Run) bool {
	t.Helper()
	right := dagRight && plainRunOk(d, r)
	wantRunOk(t, d, r, right)
	wantOver(t, r, plainOver(r))
	wantBlockRest(t, d, r, plainBlockRest(d, dagRight, r))
	for i := -1; i <= len(r.Tasks); i++ {
		lookAtTask(t, d, right, r, i)
	}
	return right
}

// each list of just so many of the numbers first .. last
func kindsOf(count, first, last int) [][]int {
	return slices.DeleteFunc(listsOf(upTo(first, last), count), func(list []int) bool { return len(list) < count })
}

// all right plans of one to four tasks that differ in After, made once; Retries and Past go by place
var rightGraphs = sync.OnceValue(func() [][]impl.Dag {
	list := make([][]impl.Dag, 5)
	for count := 1; count <= 4; count++ {
		for _, d := range graphsOf([]string{"b", "ann", "c", "a"}[:count]) {
			if !plainDagOk(d) {
				continue
			}
			for at := range d.Tasks {
				d.Tasks[at].Retries, d.Tasks[at].Past = (at+1)%4, at%2 == 1
			}
			list[count] = append(list[count], d)
		}
	}
	return list
})

// a, and behind it b and c, and behind both of these d; Retries are 0, 1, 2 and 3
func diamond() impl.Dag {
	return dagOf(task("a", "one", 0, false), task("b", "two", 1, true, "a"), task("c", "wide", 2, false, "a"), task("d", "one", 3, true, "b", "c"))
}

// a, b, c and d, each behind the one ahead, and each tried once
func chain() impl.Dag {
	return dagOf(one("a"), one("b", "a"), one("c", "b"), one("d", "c"))
}

func TestRunConstants(t *testing.T) {
	kinds := []int{impl.IsWaiting, impl.IsRunning, impl.IsDone, impl.IsFailed, impl.IsBlocked}
	if !slices.Equal(kinds, []int{0, 1, 2, 3, 4}) {
		t.Errorf("the states are %v", kinds)
	}
}

func rightSpans() []impl.Span {
	return []impl.Span{span(0, 1), span(0, 60), span(1, 2), span(59, 60), span(0, 68374079), span(68374078, 68374079), span(1, 68374079), span(1<<20, 1<<21)}
}

func wrongSpans() []impl.Span {
	return []impl.Span{
		{}, span(-1, 0), span(-1, 60), span(-60, -1), span(0, -1), span(1, 1), span(60, 60), span(61, 60), span(60, 0),
		span(68374079, 68374079), span(68374079, 68374080), span(68374080, 68374081), span(0, 68374080), span(68374078, 68374080), span(68374079, 68374078),
		span(math.MinInt64, math.MaxInt64), span(math.MinInt64, 60), span(0, math.MaxInt64), span(math.MaxInt64, math.MinInt64), span(math.MaxInt64, 60), span(-1<<32, 60), span(0, 1<<32+60),
	}
}

func TestRunNew(t *testing.T) {
	d := draw(14)
	plans := []impl.Dag{handDag(), diamond(), chain(), dagOf(one("a")), dag("z9", "* * * * *", 68374079, 68374079, false, one("q"))}
	for _, list := range rightGraphs() {
		plans = append(plans, list...)
	}
	for range 500 {
		plans = append(plans, drawnDag(&d))
	}
	for _, plan := range plans {
		for _, s := range rightSpans() {
			want := impl.Run{Dag: plan.Name, Span: s, Tasks: make([]impl.State, len(plan.Tasks))}
			wantRunNew(t, plan, s, want, true)
			wantRunOk(t, plan, want, true)
			wantOver(t, want, false)
		}
		for _, s := range wrongSpans() {
			wantRunNew(t, plan, s, impl.Run{}, false)
		}
	}
}

// a plan that is not right has no run, and nothing is done in what seems to be one
func TestRunsOfWrongDags(t *testing.T) {
	for _, d := range wrongDags() {
		for _, s := range append(rightSpans(), span(0, 0), span(-1, 5)) {
			wantRunNew(t, d, s, impl.Run{}, false)
		}
		for is := range 5 {
			// what is last is running, so that it could be finished, and what is first is not waiting
			tasks := states(slices.Repeat([]int{0}, len(d.Tasks))...)
			if len(tasks) > 0 {
				tasks[len(tasks)-1] = state(1, 0, 1, 5)
				tasks[0] = states(is)[0]
			}
			r := runOf(d, tasks...)
			wantRunOk(t, d, r, false)
			wantBlockRest(t, d, r, r)
			for _, i := range []int{-1, 0, 1, 2, 3, 4, len(tasks) - 1, len(tasks)} {
				wantReady(t, d, r, i, true, impl.MaxMinute, false)
				refuseFinish(t, d, r, i, 3)
				refuseClear(t, d, r, i)
			}
		}
	}
	// the same tasks in a right plan go on
	d := dagOf(one("a"), one("b", "a"))
	wantBlockRest(t, d, runOf(d, states(3, 0)...), runOf(d, states(3, 4)...))
	d.Cron = "*/30 * * * *"
	wantBlockRest(t, d, runOf(d, states(3, 0)...), runOf(d, states(3, 0)...))
}

// one field of a right run beside the tasks is changed
func TestRunOkHead(t *testing.T) {
	d := diamond()
	for _, tasks := range [][]impl.State{states(0, 0, 0, 0), states(2, 1, 2, 0), states(2, 3, 1, 4), states(2, 2, 2, 2)} {
		right := runOf(d, tasks...)
		wantRunOk(t, d, right, true)
		for _, name := range []string{"", "a", "b", "an", "annn", "Ann", "ann ", " ann", "ann\x00", "ann\n", "anm", "bnn", "\xff", strings.Repeat("ann", 5000)} {
			r := copyRun(right)
			r.Dag = name
			wantRunOk(t, d, r, false)
			wantReady(t, d, r, 0, true, 10, false)
			refuseFinish(t, d, r, 1, 3)
			refuseClear(t, d, r, 0)
		}
		other := d
		other.Name = "bob"
		wantRunOk(t, other, right, false)
		for _, s := range rightSpans() {
			r := copyRun(right)
			r.Span = s
			wantRunOk(t, d, r, true)
		}
		for _, s := range wrongSpans() {
			r := copyRun(right)
			r.Span = s
			wantRunOk(t, d, r, false)
			wantReady(t, d, r, 0, true, 10, false)
			refuseFinish(t, d, r, 1, 3)
			refuseClear(t, d, r, 0)
		}
		for _, epoch := range []int{math.MinInt64, -1 << 32, -1000, -1, 0, 1, 2, 500, 999, 1000, 1001, 1 << 32, math.MaxInt64} {
			r := copyRun(right)
			r.Epoch = epoch
			wantRunOk(t, d, r, epoch >= 0 && epoch <= 1000)
		}
	}
	wantRunOk(t, d, impl.Run{}, false)
	wantRunOk(t, impl.Dag{}, impl.Run{}, false)
	wantRunOk(t, impl.Dag{}, impl.Run{Span: span(0, 60)}, false)
}

func TestRunOkHowManyTasks(t *testing.T) {
	for count := 1; count <= 4; count++ {
		d := dagOf([]impl.Task{one("a"), one("b"), one("c"), one("d")}[:count]...)
		for had := range 8 {
			r := runOf(d, make([]impl.State, had)...)
			wantRunOk(t, d, r, had == count)
			wantReady(t, d, r, 0, true, 10, had == count)
			// what is stuck, too: no task that the plan has not is looked at
			r.Tasks = states(slices.Repeat([]int{2}, had)...)
			wantRunOk(t, d, r, had == count)
		}
		r := runOf(d)
		wantRunOk(t, d, r, false)
		r.Tasks = []impl.State{}
		wantRunOk(t, d, r, false)
		r.Tasks = make([]impl.State, 1<<16+count)
		wantRunOk(t, d, r, false)
	}
}

// runs of the diamond in which each state stands, and the place of one in it
func standing() []struct {
	kinds []int
	place int
} {
	return []struct {
		kinds []int
		place int
	}{
		{[]int{0, 0, 0, 0}, 0}, {[]int{0, 0, 0, 0}, 3}, {[]int{2, 0, 2, 0}, 1}, {[]int{2, 2, 2, 0}, 3},
		{[]int{1, 0, 0, 0}, 0}, {[]int{2, 1, 1, 0}, 1}, {[]int{2, 1, 3, 4}, 1}, {[]int{2, 2, 2, 1}, 3},
		{[]int{2, 0, 0, 0}, 0}, {[]int{2, 2, 0, 0}, 1}, {[]int{2, 2, 2, 2}, 2}, {[]int{2, 2, 2, 2}, 3},
		{[]int{3, 4, 4, 4}, 0}, {[]int{2, 3, 2, 4}, 1}, {[]int{2, 0, 3, 4}, 2}, {[]int{2, 2, 2, 3}, 3},
		{[]int{3, 4, 4, 4}, 1}, {[]int{3, 4, 4, 4}, 3}, {[]int{2, 3, 2, 4}, 3}, {[]int{2, 1, 3, 4}, 3},
	}
}

func TestRunOkNumbers(t *testing.T) {
	d := diamond()
	look := func(right impl.Run, place int, s impl.State, want bool) {
		t.Helper()
		r := copyRun(right)
		r.Tasks[place] = s
		wantRunOk(t, d, r, want)
		if plainRunOk(d, r) != want {
			t.Fatalf("by hand %s is %v", tellRun(r), !want)
		}
	}
	for _, known := range standing() {
		right := runOf(d, states(known.kinds...)...)
		wantRunOk(t, d, right, true)
		s := right.Tasks[known.place]
		for retries := range 4 {
			d.Tasks[known.place].Retries = retries
			for _, tries := range []int{math.MinInt64, -1 << 32, -2, -1, 0, 1, 2, 3, 4, 5, 6, 1 << 32, math.MaxInt64} {
				look(right, known.place, state(s.Is, tries, s.Token, s.Until), tries >= 0 && tries <= retries+1)
			}
		}
		d = diamond()
		for _, token := range []int{math.MinInt64, -1 << 32, -1000000000, -2, -1, 0, 1, 2, 999999999, 1000000000, 1000000001, 1 << 32, 1<<32 + 1, math.MaxInt64} {
			want := token == 0
			if s.Is == 1 {
				want = token >= 1 && token <= 1000000000
			}
			look(right, known.place, state(s.Is, s.Tries, token, s.Until), want)
		}
		for _, until := range []int{math.MinInt64, -1 << 32, -100, -2, -1, 0, 1, 100, 68374078, 68374079, 68374080, 68374178, 68374179, 68374180, 1 << 32, math.MaxInt64} {
			look(right, known.place, state(s.Is, s.Tries, s.Token, until), until >= 0 && until <= 68374179)
		}
	}
}

// what is none of the five states stands in no right run, wherever it is
func TestRunOkStrangeStates(t *testing.T) {
	for _, is := range []int{math.MinInt64, -1 << 32, -5, -4, -3, -2, -1, 5, 6, 7, 8, 255, 256, 257, 258, 1 << 32, 1<<32 + 1, 1<<32 + 2, math.MaxInt64} {
		for _, d := range []impl.Dag{dagOf(one("a")), dagOf(one("a"), one("b")), chain(), diamond()} {
			for place := range d.Tasks {
				for _, other := range []int{0, 2, 3, 4} {
					tasks := states(slices.Repeat([]int{other}, len(d.Tasks))...)
					for _, token := range []int{0, 1} {
						tasks[place] = state(is, 0, token, 0)
						wantRunOk(t, d, runOf(d, tasks...), false)
					}
				}
			}
		}
	}
}

// one task behind another, in each two states; one behind two, in each three
func TestRunOkAhead(t *testing.T) {
	two := dagOf(one("a"), one("b", "a"))
	turned := dagOf(one("b", "a"), one("a"))
	for up := range 5 {
		for down := range 5 {
			// blocked is only what is behind something
			want := up != 4
			switch down {
			case 1, 2:
				want = want && up == 2
			case 4:
				want = want && up == 3
			case 0:
				want = want && up != 3
			}
			wantRunOk(t, two, runOf(two, states(up, down)...), want)
			wantRunOk(t, turned, runOf(turned, states(down, up)...), want)
		}
	}
	three := dagOf(one("a"), one("b"), one("c", "a", "b"))
	for _, kinds := range kindsOf(3, 0, 4) {
		a, b, c := kinds[0], kinds[1], kinds[2]
		want := a != 4 && b != 4
		switch c {
		case 1, 2:
			want = want && a == 2 && b == 2
		case 4:
			want = want && (a == 3 || b == 3)
		case 0:
			want = want && a != 3 && b != 3
		}
		wantRunOk(t, three, runOf(three, states(kinds...)...), want)
	}
	// what is just ahead counts, not what is ahead of that
	long := chain()
	for _, known := range []struct {
		kinds []int
		want  bool
	}{
		{[]int{3, 4, 4, 4}, true}, {[]int{3, 4, 4, 0}, false}, {[]int{3, 4, 0, 0}, false}, {[]int{3, 0, 0, 0}, false}, {[]int{3, 4, 0, 4}, false},
		{[]int{0, 0, 0, 0}, true}, {[]int{1, 0, 0, 0}, true}, {[]int{2, 0, 0, 0}, true}, {[]int{2, 1, 0, 0}, true}, {[]int{2, 2, 2, 2}, true},
		{[]int{0, 3, 4, 4}, true}, {[]int{1, 3, 4, 4}, true}, {[]int{2, 3, 4, 4}, true}, {[]int{3, 3, 4, 4}, true}, {[]int{3, 3, 3, 3}, true}, {[]int{3, 4, 3, 4}, true},
		{[]int{0, 2, 0, 0}, false}, {[]int{2, 0, 2, 0}, false}, {[]int{2, 2, 0, 2}, false}, {[]int{0, 1, 0, 0}, false}, {[]int{2, 1, 1, 0}, false}, {[]int{2, 1, 2, 0}, false},
		{[]int{3, 2, 2, 2}, false}, {[]int{3, 4, 2, 2}, false}, {[]int{3, 4, 4, 2}, false}, {[]int{3, 4, 4, 1}, false},
		{[]int{4, 4, 4, 4}, false}, {[]int{2, 4, 4, 4}, false}, {[]int{2, 2, 4, 4}, false}, {[]int{2, 2, 2, 4}, false}, {[]int{2, 2, 1, 4}, false},
	} {
		wantRunOk(t, long, runOf(long, states(known.kinds...)...), known.want)
	}
}

// all plans of up to three tasks with each state of each task, none of the five among them, and of four tasks with each of the five
func TestRunsOfAllGraphs(t *testing.T) {
	rights := [5]int{}
	for count := 1; count <= 4; count++ {
		first, last := -1, 5
		if count == 4 {
			first, last = 0, 4
		}
		for at, d := range rightGraphs()[count] {
			for _, kinds := range kindsOf(count, first, last) {
				r := runOf(d, states(kinds...)...)
				// of four tasks most are only asked for whether they are right
				if count == 4 && at%20 != 0 {
					right := plainRunOk(d, r)
					wantRunOk(t, d, r, right)
					if right {
						rights[count]++
					}
					continue
				}
				if lookAtRun(t, d, true, r) {
					rights[count]++
				}
			}
		}
	}
	// one alone is waiting, running, done or failed; of two the plans a b, a > b and b > a
	if want := 4; rights[1] != want {
		t.Errorf("%d runs of one task are right, not %d", rights[1], want)
	}
	if want := 16 + 2*(2+2+4+2); rights[2] != want {
		t.Errorf("%d runs of two tasks are right, not %d", rights[2], want)
	}
	if rights[3] < 500 || rights[4] < 20000 {
		t.Errorf("so many runs are right: %v", rights)
	}
}

// a run that is right, drawn: task by task in their order, each in a state that it may be in behind those ahead
func drawnRun(d *draw, plan impl.Dag) impl.Run {
	r := impl.Run{Dag: plan.Name, Span: rightSpans()[d.below(8)], Epoch: []int{0, 1, 999, 1000, d.below(1001)}[d.below(5)], Tasks: make([]impl.State, len(plan.Tasks))}
	for _, i := range plainOrder(plan) {
		ahead := plainAhead(plan, r, i)
		kinds := []int{0, 3}
		switch {
		case ahead[3]+ahead[4] > 0:
			kinds = []int{4, 4, 3}
		case ahead[2] == len(plan.Tasks[i].After):
			kinds = []int{0, 1, 1, 2, 2, 2, 2, 3}
		}
		s := state(kinds[d.below(len(kinds))], d.below(plan.Tasks[i].Retries+2), 0, []int{0, 3, 68374179, d.below(68374180)}[d.below(4)])
		if s.Is == 1 {
			s.Token = []int{1, 1000000000, 1 + d.below(1000)}[d.below(3)]
		}
		r.Tasks[i] = s
	}
	return r
}

func TestDrawnRuns(t *testing.T) {
	d := draw(1014)
	var seen [5]int
	for range 4000 {
		plan := drawnDag(&d)
		r := drawnRun(&d, plan)
		if !lookAtRun(t, plan, true, r) {
			t.Fatalf("%s is drawn for %s, and not right", tellRun(r), tellDag(plan))
		}
		for _, s := range r.Tasks {
			seen[s.Is]++
		}
	}
	if slices.Min(seen[:]) < 300 {
		t.Errorf("the states stand so often: %v", seen)
	}
}

// one number of a right run is another one
func TestDrawnWrongRuns(t *testing.T) {
	d := draw(2014)
	numbers := []int{math.MinInt64, -1, 0, 1, 2, 3, 4, 5, 999, 1000, 1001, 68374079, 68374179, 68374180, 1000000000, 1000000001, math.MaxInt64}
	rights := 0
	for range 6000 {
		plan := drawnDag(&d)
		r := drawnRun(&d, plan)
		s := &r.Tasks[d.below(len(r.Tasks))]
		number := numbers[d.below(len(numbers))]
		switch d.below(11) {
		case 0, 1, 2:
			s.Is = d.below(5)
		case 3:
			s.Is = number
		case 4:
			s.Tries = number
		case 5:
			s.Token = number
		case 6:
			s.Until = number
		case 7:
			r.Epoch = number
		case 8:
			r.Span = append(wrongSpans(), span(0, 1))[d.below(len(wrongSpans())+1)]
		case 9:
			r.Tasks = append(r.Tasks, states(d.below(5))...)
		case 10:
			r.Tasks = r.Tasks[1:]
		}
		if lookAtRun(t, plan, true, r) {
			rights++
		}
	}
	if rights < 1000 || rights > 4000 {
		t.Errorf("%d of 6000 are right", rights)
	}
}

func TestReadyPlaces(t *testing.T) {
	for count := 1; count <= 4; count++ {
		d := dagOf([]impl.Task{one("a"), one("b"), one("c"), one("d")}[:count]...)
		r := runOf(d, make([]impl.State, count)...)
		for i := range count {
			wantReady(t, d, r, i, false, 0, true)
		}
		for _, i := range append(placesOfNone(), count, count+1) {
			for _, past := range []bool{false, true} {
				wantReady(t, d, r, i, past, 10, false)
			}
		}
	}
}

func TestReadyStates(t *testing.T) {
	d := dagOf(one("a"), one("b"))
	for is := -1; is <= 5; is++ {
		r := runOf(d, states(is, 0)...)
		wantReady(t, d, r, 0, true, 10, is == 0)
		// what is beside it has no part in it, as long as the run is right
		wantReady(t, d, r, 1, true, 10, is >= 0 && is < 4)
	}
	for _, d := range []impl.Dag{dagOf(one("a"), one("b", "a")), dagOf(one("a"), task("b", "one", 3, true, "a"))} {
		for is := -1; is <= 5; is++ {
			r := runOf(d, states(is, 0)...)
			wantReady(t, d, r, 1, true, 10, is == 2)
			wantReady(t, d, r, 1, true, math.MaxInt64, is == 2)
		}
	}
	three := dagOf(one("a"), one("c", "a", "b"), one("b"))
	for a := range 5 {
		for b := range 5 {
			r := runOf(three, states(a, 0, b)...)
			wantReady(t, three, r, 1, false, 0, a == 2 && b == 2)
		}
	}
}

func TestReadyUntil(t *testing.T) {
	d := dagOf(one("a"), one("b", "a"))
	for _, until := range []int{0, 1, 2, 59, 60, 61, 68374078, 68374079, 68374080, 68374178, 68374179} {
		for place, r := range []impl.Run{runOf(d, state(0, 0, 0, until), impl.State{}), runOf(d, state(2, 0, 0, 0), state(0, 1, 0, until))} {
			for _, now := range []int{math.MinInt64, -1, 0, until - 2, until - 1, until, until + 1, until + 2, 68374079, 68374179, 68374180, math.MaxInt64} {
				wantReady(t, d, r, place, false, now, until <= now)
			}
		}
	}
	// the Until of what is ahead has no part in it, nor that of another one
	wantReady(t, d, runOf(d, state(2, 0, 0, 500), state(0, 0, 0, 5)), 1, false, 5, true)
	wantReady(t, d, runOf(d, state(0, 0, 0, 5), state(0, 0, 0, 500)), 0, false, 5, true)
	wantReady(t, d, runOf(d, state(0, 0, 0, 5), state(0, 0, 0, 500)), 1, false, 500, false)
	// a run that is not right
	wantReady(t, d, runOf(d, state(0, 0, 0, -1), impl.State{}), 0, true, 10, false)
	wantReady(t, d, runOf(d, state(0, 0, 0, 68374180), impl.State{}), 0, true, math.MaxInt64, false)
	wantReady(t, d, runOf(d, impl.State{}, state(0, 0, 0, 68374180)), 0, true, 10, false)
	wantReady(t, d, runOf(d, impl.State{}, states(2)[0]), 0, true, 10, false)
}

func TestReadyPast(t *testing.T) {
	for _, known := range []struct{ wants, past, want bool }{{false, false, true}, {false, true, true}, {true, false, false}, {true, true, true}} {
		// the Past of the other task is the other way round
		d := dagOf(task("a", "one", 0, known.wants), task("b", "one", 0, !known.wants))
		wantReady(t, d, runOf(d, states(0, 0)...), 0, known.past, 0, known.want)
		d = dagOf(task("a", "one", 0, !known.wants), task("b", "one", 0, known.wants, "a"))
		wantReady(t, d, runOf(d, states(2, 0)...), 1, known.past, 0, known.want)
		// past alone makes nothing ready
		wantReady(t, d, runOf(d, states(1, 0)...), 1, known.past, 0, false)
		wantReady(t, d, runOf(d, states(2, 1)...), 1, known.past, 0, false)
		wantReady(t, d, runOf(d, state(2, 0, 0, 0), state(0, 0, 0, 1)), 1, known.past, 0, false)
	}
}

func TestKnownBlockRest(t *testing.T) {
	side := dagOf(one("a"), one("b"), one("c", "a"), one("d", "b"))
	last := dagOf(one("d", "c"), one("c", "b"), one("b", "a"), one("a"))
	for _, known := range []struct {
		d        impl.Dag
		from, to []int
	}{
		// behind a failed one, through one and through several
		{dagOf(one("a"), one("b", "a")), []int{3, 0}, []int{3, 4}},
		{dagOf(one("b", "a"), one("a")), []int{0, 3}, []int{4, 3}},
		{chain(), []int{3, 0, 0, 0}, []int{3, 4, 4, 4}},
		{chain(), []int{2, 3, 0, 0}, []int{2, 3, 4, 4}},
		{chain(), []int{2, 2, 3, 0}, []int{2, 2, 3, 4}},
		{chain(), []int{2, 2, 2, 3}, []int{2, 2, 2, 3}},
		{last, []int{0, 0, 0, 3}, []int{4, 4, 4, 3}},
		{last, []int{0, 0, 3, 2}, []int{4, 4, 3, 2}},
		{diamond(), []int{3, 0, 0, 0}, []int{3, 4, 4, 4}},
		{diamond(), []int{2, 3, 0, 0}, []int{2, 3, 0, 4}},
		{diamond(), []int{2, 2, 3, 0}, []int{2, 2, 3, 4}},
		{diamond(), []int{2, 1, 3, 0}, []int{2, 1, 3, 4}},
		// behind a blocked one
		{dagOf(one("a"), one("b", "a")), []int{4, 0}, []int{4, 4}},
		{chain(), []int{3, 4, 0, 0}, []int{3, 4, 4, 4}},
		{chain(), []int{3, 4, 4, 0}, []int{3, 4, 4, 4}},
		{chain(), []int{4, 0, 0, 0}, []int{4, 4, 4, 4}},
		{chain(), []int{0, 4, 0, 0}, []int{0, 4, 4, 4}},
		// what is not waiting stays, and nothing is blocked through it
		{chain(), []int{3, 2, 0, 0}, []int{3, 2, 0, 0}},
		{chain(), []int{3, 1, 0, 0}, []int{3, 1, 0, 0}},
		{chain(), []int{3, 0, 1, 0}, []int{3, 4, 1, 0}},
		{chain(), []int{3, 0, 2, 0}, []int{3, 4, 2, 0}},
		{chain(), []int{3, 3, 0, 0}, []int{3, 3, 4, 4}},
		{chain(), []int{3, 5, 0, 0}, []int{3, 5, 0, 0}},
		{chain(), []int{3, -1, 0, 0}, []int{3, -1, 0, 0}},
		// behind none that is stuck
		{chain(), []int{0, 0, 0, 0}, []int{0, 0, 0, 0}},
		{chain(), []int{1, 0, 0, 0}, []int{1, 0, 0, 0}},
		{chain(), []int{2, 1, 0, 0}, []int{2, 1, 0, 0}},
		{chain(), []int{5, 0, 0, 0}, []int{5, 0, 0, 0}},
		{chain(), []int{-1, 0, 0, 0}, []int{-1, 0, 0, 0}},
		{side, []int{3, 0, 0, 0}, []int{3, 0, 4, 0}},
		{side, []int{0, 3, 0, 0}, []int{0, 3, 0, 4}},
		{side, []int{3, 4, 0, 0}, []int{3, 4, 4, 4}},
		// what is ahead of a failed one goes on
		{chain(), []int{0, 0, 3, 0}, []int{0, 0, 3, 4}},
	} {
		wantBlockRest(t, known.d, runOf(known.d, states(known.from...)...), runOf(known.d, states(known.to...)...))
	}
}

// of what is blocked Until is 0 and all else stays; of all others everything does
func TestBlockRestNumbers(t *testing.T) {
	d := chain()
	r := impl.Run{Dag: "ann", Span: span(60, 120), Epoch: 7, Tasks: []impl.State{state(3, 1, 0, 11), state(0, 1, 0, 12), state(4, 1, 0, 13), state(0, 0, 0, 14)}}
	want := copyRun(r)
	want.Tasks[1], want.Tasks[3] = state(4, 1, 0, 0), state(4, 0, 0, 0)
	wantBlockRest(t, d, r, want)
	// whether a run is right is not asked
	r = impl.Run{Dag: "bob", Span: span(9, -9), Epoch: -5, Tasks: []impl.State{state(3, -1, 8, -11), state(0, 99, 7, -12), state(1, -7, -8, math.MinInt64), state(0, 3, 6, math.MaxInt64)}}
	want = copyRun(r)
	want.Tasks[1] = state(4, 99, 7, 0)
	wantBlockRest(t, d, r, want)
	r.Tasks[2].Is = 0
	want = copyRun(r)
	want.Tasks[1], want.Tasks[2], want.Tasks[3] = state(4, 99, 7, 0), state(4, -7, -8, 0), state(4, 3, 6, 0)
	wantBlockRest(t, d, r, want)
}

func TestBlockRestAsItIs(t *testing.T) {
	d := chain()
	for had := range 9 {
		tasks := states(append([]int{3}, slices.Repeat([]int{0}, 8)...)...)[:had]
		for at := range tasks {
			tasks[at].Until = at
		}
		r := impl.Run{Dag: "ann", Span: span(0, 60), Epoch: 3, Tasks: tasks}
		if had != 4 {
			wantBlockRest(t, d, r, r)
		}
	}
	many := runOf(d, slices.Repeat(states(3, 0, 0, 0), 5000)...)
	wantBlockRest(t, d, many, many)
	wantBlockRest(t, d, impl.Run{}, impl.Run{})
	wantBlockRest(t, impl.Dag{}, impl.Run{}, impl.Run{})
	// a plan that is not right, with as many tasks
	for _, wrong := range wrongDags() {
		r := runOf(wrong, states(slices.Repeat([]int{0}, len(wrong.Tasks))...)...)
		for at := range r.Tasks {
			r.Tasks[at] = state(3*(at%2), at, 0, 5)
			wantBlockRest(t, wrong, runOf(wrong, r.Tasks[:at]...), runOf(wrong, r.Tasks[:at]...))
			if at > 10 {
				break
			}
		}
		wantBlockRest(t, wrong, r, r)
	}
}

func TestOver(t *testing.T) {
	wantOver(t, impl.Run{}, true)
	wantOver(t, impl.Run{Tasks: []impl.State{}}, true)
	wantOver(t, impl.Run{Dag: "ann", Span: span(0, 60), Epoch: 1}, true)
	for count := 1; count <= 4; count++ {
		for _, kinds := range kindsOf(count, -1, 5) {
			over := !slices.Contains(kinds, 0) && !slices.Contains(kinds, 1)
			wantOver(t, impl.Run{Tasks: states(kinds...)}, over)
			// no other number has a part in it
			tasks := states(kinds...)
			for at := range tasks {
				tasks[at].Tries, tasks[at].Token, tasks[at].Until = 1, 1, 1
			}
			wantOver(t, impl.Run{Dag: "x", Span: span(5, 1), Epoch: -1, Tasks: tasks}, over)
		}
	}
	for _, is := range []int{math.MinInt64, -1 << 32, 1 << 32, 1<<32 + 1, 256, 257, math.MaxInt64} {
		wantOver(t, impl.Run{Tasks: states(is, is)}, true)
	}
	for _, at := range []int{0, 1, 3, 4, 500, 998, 999} {
		for is := range 5 {
			tasks := states(slices.Repeat([]int{2}, 1000)...)
			tasks[at].Is = is
			wantOver(t, impl.Run{Tasks: tasks}, is > 1)
		}
	}
}

func TestBeginStates(t *testing.T) {
	for count := 1; count <= 6; count++ {
		for place := range count {
			for is := -2; is <= 6; is++ {
				for other := range 5 {
					tasks := states(slices.Repeat([]int{other}, count)...)
					tasks[place] = state(is, 2, 3, 4)
					r := impl.Run{Dag: "ann", Span: span(60, 120), Epoch: 9, Tasks: tasks}
					want := copyRun(r)
					want.Tasks[place] = state(1, 2, 7, 8)
					if is != 0 {
						want = impl.Run{}
					}
					wantBegin(t, r, place, 7, 8, want, is == 0)
				}
			}
		}
	}
	for _, is := range []int{math.MinInt64, -1 << 32, 1 << 32, 256, math.MaxInt64} {
		wantBegin(t, impl.Run{Tasks: states(is)}, 0, 7, 8, impl.Run{}, false)
	}
}

func TestBeginPlaces(t *testing.T) {
	for count := range 6 {
		r := impl.Run{Dag: "ann", Span: span(0, 60), Tasks: make([]impl.State, count)}
		for _, i := range append(placesOfNone(), count, count+1, -count-1) {
			if i < 0 || i >= count {
				wantBegin(t, r, i, 7, 8, impl.Run{}, false)
			}
		}
	}
	wantBegin(t, impl.Run{}, 0, 7, 8, impl.Run{}, false)
	// as many tasks as there may be in no right run
	many := impl.Run{Tasks: make([]impl.State, 5000)}
	for _, i := range []int{0, 1, 4, 4998, 4999} {
		want := copyRun(many)
		want.Tasks[i] = state(1, 0, 7, 8)
		wantBegin(t, many, i, 7, 8, want, true)
	}
	wantBegin(t, many, 5000, 7, 8, impl.Run{}, false)
}

// token and until are what they are; the run is right then when they are as they must be, and all is done that is ahead
func TestBeginNumbers(t *testing.T) {
	d := diamond()
	numbers := []int{math.MinInt64, -1, 0, 1, 2, 68374079, 68374179, 68374180, 1000000000, 1000000001, math.MaxInt64}
	for _, known := range []struct {
		kinds []int
		place int
		ready bool
	}{{[]int{0, 0, 0, 0}, 0, true}, {[]int{2, 0, 0, 0}, 1, true}, {[]int{2, 3, 0, 4}, 2, true}, {[]int{2, 2, 2, 0}, 3, true}, {[]int{0, 0, 0, 0}, 1, false}, {[]int{2, 2, 1, 0}, 3, false}, {[]int{1, 0, 0, 0}, 2, false}} {
		for _, token := range numbers {
			for _, until := range numbers {
				r := runOf(d, states(known.kinds...)...)
				r.Tasks[known.place] = state(0, 1, 0, 40)
				want := copyRun(r)
				want.Tasks[known.place] = state(1, 1, token, until)
				wantBegin(t, r, known.place, token, until, want, true)
				wantRunOk(t, d, want, known.ready && token >= 1 && token <= 1000000000 && until >= 0 && until <= 68374179)
			}
		}
	}
	// the run need not be right
	r := impl.Run{Dag: "\xff", Span: span(3, 2), Epoch: -7, Tasks: []impl.State{state(9, -1, -2, -3), state(0, -4, -5, -6), state(4, 0, 8, 0)}}
	want := copyRun(r)
	want.Tasks[1] = state(1, -4, 11, 12)
	wantBegin(t, r, 1, 11, 12, want, true)
}

func TestFinishGood(t *testing.T) {
	d := diamond()
	for _, known := range []struct {
		kinds []int
		place int
	}{{[]int{1, 0, 0, 0}, 0}, {[]int{2, 1, 0, 0}, 1}, {[]int{2, 1, 1, 0}, 2}, {[]int{2, 1, 3, 4}, 1}, {[]int{2, 2, 1, 0}, 2}, {[]int{2, 2, 2, 1}, 3}} {
		for tries := range d.Tasks[known.place].Retries + 2 {
			r := runOf(d, states(known.kinds...)...)
			r.Epoch = 5
			r.Tasks[known.place] = state(1, tries, 9, 33)
			want := copyRun(r)
			want.Tasks[known.place] = state(2, tries, 0, 0)
			for _, now := range []int{0, 1, 32, 33, 34, 68374079} {
				wantFinish(t, d, r, known.place, true, now, want, true)
			}
			wantRunOk(t, d, want, true)
		}
	}
}

// Tries below, at and past Retries
func TestFinishNotGood(t *testing.T) {
	waits := []int{0, 2, 4, 8}
	for retries := range 4 {
		d := dagOf(task("a", "one", 3, false), task("b", "two", retries, false, "a"), task("c", "one", 0, false, "b"), task("d", "one", 3, false, "a", "c"))
		for tries := range retries + 2 {
			r := runOf(d, state(2, 1, 0, 0), state(1, tries, 44, 55), state(0, 1, 0, 66), state(0, 2, 0, 77))
			for _, now := range []int{0, 1, 54, 55, 56, 1000, 68374078, 68374079} {
				want := copyRun(r)
				if tries < retries {
					want.Tasks[1] = state(0, tries+1, 0, now+waits[tries+1])
				} else {
					want.Tasks[1], want.Tasks[2], want.Tasks[3] = state(3, retries+1, 0, 0), state(4, 1, 0, 0), state(4, 2, 0, 0)
				}
				wantFinish(t, d, r, 1, false, now, want, true)
				wantRunOk(t, d, want, true)
				wantOver(t, want, tries >= retries)
			}
		}
		// one more of Tries than there may be, and one less than none: no right run
		for _, tries := range []int{retries + 2, -1, math.MaxInt64, math.MinInt64} {
			refuseFinish(t, d, runOf(d, state(2, 0, 0, 0), state(1, tries, 44, 55), impl.State{}, impl.State{}), 1, 3)
		}
	}
	d := dagOf(one("a"))
	wantFinish(t, d, runOf(d, state(1, 0, 1, 5)), 0, false, 3, runOf(d, state(3, 1, 0, 0)), true)
	wantFinish(t, d, runOf(d, state(1, 1, 1, 5)), 0, false, 3, runOf(d, state(3, 1, 0, 0)), true)
	d.Tasks[0].Retries = 1
	wantFinish(t, d, runOf(d, state(1, 0, 1, 5)), 0, false, 3, runOf(d, state(0, 1, 0, 5)), true)
	wantFinish(t, d, runOf(d, state(1, 1, 1, 5)), 0, false, 3, runOf(d, state(3, 2, 0, 0)), true)
	wantFinish(t, d, runOf(d, state(1, 2, 1, 5)), 0, false, 3, runOf(d, state(3, 2, 0, 0)), true)
}

// what is behind a failed task, and what is not
func TestFinishBlocks(t *testing.T) {
	side := dagOf(one("a"), one("b"), one("c", "a"), one("d", "b"))
	for _, known := range []struct {
		d        impl.Dag
		place    int
		from, to []int
	}{
		{chain(), 0, []int{1, 0, 0, 0}, []int{3, 4, 4, 4}},
		{chain(), 1, []int{2, 1, 0, 0}, []int{2, 3, 4, 4}},
		{chain(), 3, []int{2, 2, 2, 1}, []int{2, 2, 2, 3}},
		{chain(), 0, []int{1, 3, 4, 4}, []int{3, 3, 4, 4}},
		{chain(), 0, []int{1, 0, 3, 4}, []int{3, 4, 3, 4}},
		{side, 0, []int{1, 1, 0, 0}, []int{3, 1, 4, 0}},
		{side, 1, []int{2, 1, 1, 0}, []int{2, 3, 1, 4}},
		{side, 3, []int{2, 2, 1, 1}, []int{2, 2, 1, 3}},
		{dagOf(one("d", "b", "c"), one("b", "a"), one("c", "a"), one("a")), 1, []int{0, 1, 1, 2}, []int{4, 3, 1, 2}},
		{dagOf(one("d", "b", "c"), one("b", "a"), one("c", "a"), one("a")), 1, []int{4, 1, 3, 2}, []int{4, 3, 3, 2}},
	} {
		want := runOf(known.d, states(known.to...)...)
		want.Tasks[known.place].Tries = 1
		wantFinish(t, known.d, runOf(known.d, states(known.from...)...), known.place, false, 3, want, true)
		wantRunOk(t, known.d, want, true)
	}
}

func TestFinishRefuses(t *testing.T) {
	d := diamond()
	right := runOf(d, states(2, 1, 1, 0)...)
	for _, now := range []int{math.MinInt64, -1 << 32, -68374079, -2, -1, 68374080, 68374081, 68374179, 1 << 32, math.MaxInt64} {
		refuseFinish(t, d, right, 1, now)
	}
	for _, i := range append(placesOfNone(), 0, 3) {
		refuseFinish(t, d, right, i, 3)
	}
	// each state but running
	for _, known := range standing() {
		r := runOf(d, states(known.kinds...)...)
		if r.Tasks[known.place].Is != 1 {
			refuseFinish(t, d, r, known.place, 3)
		}
	}
	// a run that is not right, though the task is running
	refuseFinish(t, d, runOf(d, states(2, 1, 1, 2)...), 1, 3)
	refuseFinish(t, d, runOf(d, states(0, 1, 0, 0)...), 1, 3)
	refuseFinish(t, d, runOf(d, states(2, 1, 3, 0)...), 1, 3)
	refuseFinish(t, d, runOf(d, states(2, 1, 1, 4)...), 1, 3)
	refuseFinish(t, d, runOf(d, states(2, 1, 1)...), 1, 3)
	refuseFinish(t, d, runOf(d, states(2, 1, 1, 0, 0)...), 1, 3)
	refuseFinish(t, d, runOf(d, states(2, 1, 5, 0)...), 1, 3)
	r := copyRun(right)
	r.Tasks[2].Token = 0
	refuseFinish(t, d, r, 1, 3)
	r = copyRun(right)
	r.Tasks[1].Token = 0
	refuseFinish(t, d, r, 1, 3)
	r = copyRun(right)
	r.Epoch = 1001
	refuseFinish(t, d, r, 1, 3)
	r.Epoch = 1000
	want := copyRun(r)
	want.Tasks[1] = state(2, 0, 0, 0)
	wantFinish(t, d, r, 1, true, 3, want, true)
	refuseFinish(t, d, impl.Run{}, 0, 3)
	refuseFinish(t, impl.Dag{}, right, 1, 3)
	refuseFinish(t, impl.Dag{}, impl.Run{}, 0, 3)
}

func TestBackoff(t *testing.T) {
	for n, want := range []int{1, 2, 4, 8, 8, 8, 8, 8, 8, 8} {
		if got := impl.Backoff(n); got != want {
			t.Errorf("Backoff(%d) = %d, want %d", n, got, want)
		}
	}
	for _, n := range []int{math.MinInt64, math.MinInt64 + 1, math.MinInt64 + 2, -1 << 32, -1<<32 + 1, -64, -63, -62, -3, -2, -1, 10, 61, 62, 63, 64, 65, 66, 100, 256, 257, 258, 1 << 32, 1<<32 + 1, 1<<32 + 2, math.MaxInt64 - 1, math.MaxInt64} {
		if got := impl.Backoff(n); got != 8 {
			t.Errorf("Backoff(%d) = %d, want 8", n, got)
		}
	}
}

func TestKnownClears(t *testing.T) {
	side := dagOf(one("a"), one("b"), one("c", "a"), one("d", "b"))
	last := dagOf(one("d", "c"), one("c", "b"), one("b", "a"), one("a"))
	for _, known := range []struct {
		d        impl.Dag
		place    int
		from, to []int
	}{
		// a task alone, in each state but running
		{dagOf(one("a")), 0, []int{0}, []int{0}},
		{dagOf(one("a")), 0, []int{1}, nil},
		{dagOf(one("a")), 0, []int{2}, []int{0}},
		{dagOf(one("a")), 0, []int{3}, []int{0}},
		{side, 0, []int{2, 2, 2, 2}, []int{0, 2, 0, 2}},
		{side, 1, []int{2, 2, 2, 2}, []int{2, 0, 2, 0}},
		{side, 2, []int{2, 2, 2, 2}, []int{2, 2, 0, 2}},
		{side, 3, []int{2, 1, 2, 0}, []int{2, 1, 2, 0}},
		// what is beside it may be running
		{side, 0, []int{2, 1, 2, 0}, []int{0, 1, 0, 0}},
		{side, 0, []int{3, 2, 4, 1}, []int{0, 2, 0, 1}},
		// what is behind it through several
		{chain(), 0, []int{2, 2, 2, 2}, []int{0, 0, 0, 0}},
		{chain(), 1, []int{2, 2, 2, 2}, []int{2, 0, 0, 0}},
		{chain(), 2, []int{2, 2, 2, 2}, []int{2, 2, 0, 0}},
		{chain(), 3, []int{2, 2, 2, 2}, []int{2, 2, 2, 0}},
		{chain(), 0, []int{3, 4, 4, 4}, []int{0, 0, 0, 0}},
		{chain(), 1, []int{2, 3, 4, 4}, []int{2, 0, 0, 0}},
		{chain(), 0, []int{2, 3, 4, 4}, []int{0, 0, 0, 0}},
		{chain(), 0, []int{0, 0, 0, 0}, []int{0, 0, 0, 0}},
		{last, 3, []int{4, 4, 3, 2}, []int{0, 0, 0, 0}},
		{last, 2, []int{4, 4, 3, 2}, []int{0, 0, 0, 2}},
		// one of what is behind it is running, just behind and through several
		{chain(), 0, []int{2, 1, 0, 0}, nil},
		{chain(), 0, []int{2, 2, 1, 0}, nil},
		{chain(), 0, []int{2, 2, 2, 1}, nil},
		{chain(), 1, []int{2, 2, 2, 1}, nil},
		{chain(), 2, []int{2, 2, 2, 1}, nil},
		{chain(), 3, []int{2, 2, 2, 1}, nil},
		{last, 3, []int{1, 2, 2, 2}, nil},
		// what is running ahead of it has no part in it
		{chain(), 1, []int{1, 0, 0, 0}, []int{1, 0, 0, 0}},
		{chain(), 3, []int{2, 2, 1, 0}, []int{2, 2, 1, 0}},
		{chain(), 2, []int{1, 3, 4, 4}, nil},
		{chain(), 1, []int{1, 3, 4, 4}, []int{1, 0, 0, 0}},
		// each state of what is ahead of it
		{chain(), 1, []int{0, 0, 0, 0}, []int{0, 0, 0, 0}},
		{chain(), 1, []int{0, 3, 4, 4}, []int{0, 0, 0, 0}},
		{chain(), 1, []int{2, 2, 0, 0}, []int{2, 0, 0, 0}},
		{chain(), 1, []int{3, 4, 4, 4}, nil},
		{chain(), 1, []int{3, 3, 4, 4}, nil},
		{chain(), 2, []int{3, 4, 4, 4}, nil},
		{chain(), 3, []int{3, 4, 4, 4}, nil},
		{chain(), 3, []int{3, 4, 3, 4}, nil},
		// just ahead alone, not through another one
		{chain(), 3, []int{2, 3, 3, 4}, nil},
		{dagOf(one("a"), one("b"), one("c", "a", "b")), 2, []int{2, 3, 4}, nil},
		{dagOf(one("a"), one("b"), one("c", "a", "b")), 2, []int{3, 2, 4}, nil},
		{dagOf(one("a"), one("b"), one("c", "a", "b")), 2, []int{2, 2, 3}, []int{2, 2, 0}},
		// what is behind it, and behind another one that is stuck, is blocked again, and all behind that
		{dagOf(one("a"), one("b"), one("c", "a", "b")), 0, []int{2, 3, 4}, []int{0, 3, 4}},
		{dagOf(one("a"), one("b"), one("c", "a", "b")), 0, []int{3, 3, 4}, []int{0, 3, 4}},
		{dagOf(one("a"), one("b"), one("c", "a", "b")), 1, []int{3, 3, 3}, []int{3, 0, 4}},
		{dagOf(one("a"), one("b"), one("c", "a", "b"), one("d", "c")), 0, []int{2, 3, 4, 4}, []int{0, 3, 4, 4}},
		{dagOf(one("a"), one("b"), one("c", "a", "b"), one("d", "c")), 1, []int{2, 3, 4, 4}, []int{2, 0, 0, 0}},
		{dagOf(one("d", "c"), one("c", "a", "b"), one("b"), one("a")), 3, []int{3, 3, 3, 3}, []int{4, 4, 3, 0}},
		{diamond(), 0, []int{2, 3, 2, 4}, []int{0, 0, 0, 0}},
		{diamond(), 2, []int{2, 3, 2, 4}, []int{2, 3, 0, 4}},
		{diamond(), 1, []int{2, 3, 2, 4}, []int{2, 0, 2, 0}},
		{diamond(), 1, []int{2, 3, 1, 4}, []int{2, 0, 1, 0}},
		{diamond(), 3, []int{2, 3, 2, 4}, nil},
		{diamond(), 0, []int{2, 3, 1, 4}, nil},
	} {
		r := runOf(known.d, states(known.from...)...)
		wantRunOk(t, known.d, r, true)
		if known.to == nil {
			refuseClear(t, known.d, r, known.place)
			continue
		}
		want := runOf(known.d, states(known.to...)...)
		want.Epoch = 1
		wantClear(t, known.d, r, known.place, want, true)
		wantRunOk(t, known.d, want, true)
	}
}

// of what is cleared all numbers are 0, of all others everything stays
func TestClearNumbers(t *testing.T) {
	d := dagOf(task("a", "one", 3, false), task("b", "one", 3, false, "a"), task("c", "one", 3, false, "b"), task("d", "one", 3, true))
	tasks := []impl.State{state(2, 2, 0, 11), state(2, 3, 0, 12), state(0, 4, 0, 13), state(1, 1, 9, 14)}
	for _, epoch := range []int{0, 1, 500, 998, 999, 1000} {
		for place := range 3 {
			r := impl.Run{Dag: "ann", Span: span(60, 120), Epoch: epoch, Tasks: slices.Clone(tasks)}
			wantRunOk(t, d, r, true)
			if epoch == 1000 {
				refuseClear(t, d, r, place)
				continue
			}
			want := impl.Run{Dag: "ann", Span: span(60, 120), Epoch: epoch + 1, Tasks: slices.Clone(tasks)}
			for at := place; at < 3; at++ {
				want.Tasks[at] = impl.State{}
			}
			wantClear(t, d, r, place, want, true)
			wantRunOk(t, d, want, true)
		}
	}
	// what is blocked again has no numbers either
	d = dagOf(task("a", "one", 3, false), task("b", "one", 3, false), task("c", "one", 3, false, "a", "b"))
	r := runOf(d, state(2, 1, 0, 5), state(3, 4, 0, 6), state(4, 2, 0, 7))
	want := runOf(d, impl.State{}, state(3, 4, 0, 6), state(4, 0, 0, 0))
	want.Epoch = 1
	wantClear(t, d, r, 0, want, true)
}

func TestClearRefuses(t *testing.T) {
	d := diamond()
	right := runOf(d, states(2, 2, 2, 2)...)
	for _, i := range placesOfNone() {
		refuseClear(t, d, right, i)
	}
	small := dagOf(one("a"), one("b", "a"))
	for _, i := range append(placesOfNone(), 2, 3) {
		refuseClear(t, small, runOf(small, states(2, 2)...), i)
	}
	for _, epoch := range []int{math.MinInt64, -2, -1, 1000, 1001, math.MaxInt64} {
		r := copyRun(right)
		r.Epoch = epoch
		for i := range 4 {
			refuseClear(t, d, r, i)
		}
	}
	// runs that are not right, though what is wrong would be cleared
	for _, tasks := range [][]impl.State{states(2, 2, 2), states(2, 2, 2, 2, 2), states(2, 2, 2, 4), states(2, 2, 2, 5), states(2, 2, 3, 0), states(0, 2, 2, 2), states(3, 2, 2, 2), {}, nil, {state(2, 2, 0, 0), {}, {}, {}}, {state(2, 0, 1, 0), {}, {}, {}}, {state(2, 0, 0, -1), {}, {}, {}}, {state(2, 0, 0, 68374180), {}, {}, {}}} {
		for i := range 4 {
			refuseClear(t, d, runOf(d, tasks...), i)
		}
	}
	refuseClear(t, d, impl.Run{}, 0)
	refuseClear(t, impl.Dag{}, right, 0)
	refuseClear(t, impl.Dag{}, impl.Run{}, 0)
}

// of a plan all runs that can be come to, one step after the other, from the new one on: each is right, and looked at
func livesOf(t *testing.T, d impl.Dag) int {
	t.Helper()
	first, ok := impl.RunNew(d, span(0, 60))
	if !ok {
		t.Fatalf("%s has no run", tellDag(d))
	}
	seen := map[string]bool{tellRun(first): true}
	todo := []impl.Run{first}
	comes := func(from, to impl.Run) {
		t.Helper()
		staysRight(t, d, from, to)
		// how often it was cleared tells no two runs apart
		to.Epoch = 0
		if told := tellRun(to); !seen[told] {
			seen[told] = true
			todo = append(todo, to)
		}
	}
	for len(todo) > 0 {
		r := todo[0]
		todo = todo[1:]
		lookAtRun(t, d, true, r)
		for i, s := range r.Tasks {
			if impl.Ready(d, r, i, true, s.Until) {
				begun, _ := impl.Begin(r, i, i+1, 5)
				comes(r, begun)
			}
			for _, good := range []bool{false, true} {
				if ended, ok := impl.Finish(d, r, i, good, 3); ok {
					comes(r, ended)
				}
			}
			if cleared, ok := impl.ClearTask(d, r, i); ok {
				comes(r, cleared)
			}
		}
	}
	return len(seen)
}

func TestAllLives(t *testing.T) {
	count := 0
	for tasks, list := range rightGraphs() {
		for at, d := range list {
			// of greater plans fewer, and with fewer tries
			if tasks == 4 && at%5 != 0 {
				continue
			}
			d = copyDag(d)
			for i := range d.Tasks {
				d.Tasks[i].Retries = []int{0, 2, 2, 1, 0}[tasks]
			}
			d.Tasks[at%tasks].Retries++
			count += livesOf(t, d)
		}
	}
	if count < 5000 {
		t.Errorf("only %d runs are come to", count)
	}
}

// one life of a run, in which things are drawn to happen
type life struct {
	d    impl.Dag
	r    impl.Run
	now  int
	step int
	// of each task: in which step it was done, how often it began since it was cleared, and till when it waits
	done, begun, until []int
	// how often something began, was done, was not good, and was cleared
	counts [4]int
}

func lifeOf(t *testing.T, d impl.Dag, s impl.Span, now int) *life {
	t.Helper()
	r, ok := impl.RunNew(d, s)
	if !ok {
		t.Fatalf("%s has no run for %v", tellDag(d), s)
	}
	size := len(d.Tasks)
	return &life{d: d, r: r, now: now, done: make([]int, size), begun: make([]int, size), until: make([]int, size)}
}

// the run that comes of a step: it is right, what is not said stays, and what is done is done behind what is ahead of it
func (l *life) comes(t *testing.T, r impl.Run) {
	t.Helper()
	l.step++
	staysRight(t, l.d, l.r, r)
	if r.Dag != l.d.Name || r.Span != l.r.Span || len(r.Tasks) != len(l.r.Tasks) {
		t.Fatalf("of %s comes %s", tellRun(l.r), tellRun(r))
	}
	for i, s := range r.Tasks {
		if s.Is == 2 && l.r.Tasks[i].Is != 2 {
			l.done[i] = l.step
		}
		if s.Is != 2 {
			l.done[i] = 0
		}
	}
	l.r = r
	for i, s := range r.Tasks {
		for _, up := range plainUps(l.d, i) {
			if s.Is == 2 && (l.done[up] == 0 || l.done[up] >= l.done[i]) {
				t.Fatalf("%s: task %d is done in step %d, task %d ahead of it in step %d", tellDag(l.d), i, l.done[i], up, l.done[up])
			}
			if s.Is == 1 && r.Tasks[up].Is != 2 {
				t.Fatalf("%s: task %d of %s is running, task %d ahead of it is not done", tellDag(l.d), i, tellRun(r), up)
			}
		}
		if s.Is == 3 {
			for _, down := range plainDowns(l.d, i) {
				if is := r.Tasks[down].Is; is != 4 && is != 3 {
					t.Fatalf("%s: task %d of %s is failed, and %d behind it not blocked", tellDag(l.d), i, tellRun(r), down)
				}
			}
		}
	}
}

func (l *life) begin(t *testing.T, i, token, until int) bool {
	t.Helper()
	if !impl.Ready(l.d, l.r, i, true, l.now) {
		return false
	}
	if l.now < l.until[i] {
		t.Fatalf("%s: task %d of %s is ready at %d, ahead of %d", tellDag(l.d), i, tellRun(l.r), l.now, l.until[i])
	}
	r, ok := impl.Begin(l.r, i, token, until)
	if !ok {
		t.Fatalf("task %d of %s is ready, and does not begin", i, tellRun(l.r))
	}
	l.begun[i]++
	l.counts[0]++
	if l.begun[i] > l.d.Tasks[i].Retries+1 {
		t.Fatalf("%s: task %d is tried for the %d. time", tellDag(l.d), i, l.begun[i])
	}
	l.comes(t, r)
	return true
}

func (l *life) finish(t *testing.T, i int, good bool) bool {
	t.Helper()
	r, ok := impl.Finish(l.d, l.r, i, good, l.now)
	if ok != (l.r.Tasks[i].Is == 1) {
		t.Fatalf("Finish(%s, %s, %d, %v, %d) is %v", tellDag(l.d), tellRun(l.r), i, good, l.now, ok)
	}
	if !ok {
		return false
	}
	l.comes(t, r)
	s := r.Tasks[i]
	switch {
	case good:
		l.counts[1]++
		if s != state(2, l.begun[i]-1, 0, 0) {
			t.Fatalf("%s: task %d of %s is not done", tellDag(l.d), i, tellRun(r))
		}
	case l.begun[i] > l.d.Tasks[i].Retries:
		l.counts[2]++
		if s != state(3, l.begun[i], 0, 0) {
			t.Fatalf("%s: task %d of %s is not failed, tried %d times", tellDag(l.d), i, tellRun(r), l.begun[i])
		}
	default:
		l.counts[2]++
		l.until[i] = l.now + []int{1, 2, 4, 8}[l.begun[i]]
		if s != state(0, l.begun[i], 0, l.until[i]) {
			t.Fatalf("%s: task %d of %s is not to be tried again at %d", tellDag(l.d), i, tellRun(r), l.until[i])
		}
	}
	return true
}

func (l *life) clear(t *testing.T, i int) bool {
	t.Helper()
	epoch := l.r.Epoch
	r, ok := impl.ClearTask(l.d, l.r, i)
	if !ok {
		return false
	}
	l.counts[3]++
	for _, at := range append(plainDowns(l.d, i), i) {
		l.begun[at], l.until[at] = 0, 0
	}
	l.comes(t, r)
	if r.Epoch != epoch+1 || r.Tasks[i] != (impl.State{}) {
		t.Fatalf("%s: task %d of %s is not cleared", tellDag(l.d), i, tellRun(r))
	}
	return true
}

func TestDrawnLives(t *testing.T) {
	d := draw(3014)
	var counts [4]int
	overs := 0
	for range 300 {
		plan := drawnDag(&d)
		l := lifeOf(t, plan, rightSpans()[d.below(8)], d.below(100))
		for range 120 {
			i := d.below(len(plan.Tasks))
			switch d.below(10) {
			case 0:
				l.now += d.below(4)
			case 1:
				if d.below(3) == 0 {
					l.clear(t, i)
				}
			case 2, 3, 4, 5:
				l.begin(t, i, 1+d.below(1000000000), l.now+d.below(6))
			case 6, 7:
				l.finish(t, i, true)
			case 8, 9:
				l.finish(t, i, false)
			}
			if impl.Over(l.r) {
				overs++
			}
		}
		for at, n := range l.counts {
			counts[at] += n
		}
	}
	if slices.Min(counts[:]) < 500 || overs < 500 {
		t.Errorf("begun, done, not good and cleared: %v; over %d times", counts, overs)
	}
}

// goes on till the run is over: these tasks fail each time, and all others are done
func (l *life) failing(t *testing.T, bad []int) {
	t.Helper()
	waits := make([]int, len(l.d.Tasks))
	for !impl.Over(l.r) {
		began := false
		for i := range l.d.Tasks {
			if !l.begin(t, i, 10+i, l.now+5) {
				continue
			}
			began = true
			l.finish(t, i, !slices.Contains(bad, i))
			if s := l.r.Tasks[i]; s.Is == 0 {
				// later each time
				if wait := s.Until - l.now; wait <= waits[i] {
					t.Fatalf("%s: task %d waits for %d, and ahead of that for %d", tellDag(l.d), i, wait, waits[i])
				} else {
					waits[i] = wait
				}
			}
		}
		if !began {
			l.now++
		}
		if l.now > 1000 {
			t.Fatalf("%s is not over: %s", tellDag(l.d), tellRun(l.r))
		}
	}
}

// each plan, and in it each choice of tasks that fail each time they are tried
func TestFailingLives(t *testing.T) {
	for count, list := range rightGraphs() {
		for at, d := range list {
			d = copyDag(d)
			for i := range d.Tasks {
				d.Tasks[i].Retries = (at/7 + i) % 4
			}
			for choice := range 1 << count {
				var bad []int
				for i := range count {
					if choice>>i&1 == 1 {
						bad = append(bad, i)
					}
				}
				// of four tasks, where two or more fail, some plans are enough
				if count == 4 && len(bad) > 1 && at%5 != 0 {
					continue
				}
				l := lifeOf(t, d, span(0, 60), 0)
				l.failing(t, bad)
				blocked := map[int]bool{}
				for _, i := range bad {
					for _, down := range plainDowns(d, i) {
						blocked[down] = true
					}
				}
				for i, s := range l.r.Tasks {
					want, begun := state(2, 0, 0, 0), 1
					if slices.Contains(bad, i) {
						want, begun = state(3, d.Tasks[i].Retries+1, 0, 0), d.Tasks[i].Retries+1
					}
					if blocked[i] {
						want, begun = state(4, 0, 0, 0), 0
					}
					if s != want || l.begun[i] != begun {
						t.Fatalf("%s with %v failing each time: task %d of %s, begun %d times", tellDag(d), bad, i, tellRun(l.r), l.begun[i])
					}
				}
			}
		}
	}
}

// a task that fails, minute by minute: tried at once, then 2, 4 and 8 minutes later, and then no more
func TestTriesAreUsedUp(t *testing.T) {
	for retries, tried := range [][]int{{0}, {0, 2}, {0, 2, 6}, {0, 2, 6, 14}} {
		d := dagOf(task("a", "one", retries, false), one("b", "a"), one("c", "b"), one("d"))
		for _, from := range []int{0, 100, 68374079 - 50} {
			r, _ := impl.RunNew(d, span(0, 60))
			var began []int
			for now := from; now <= from+40; now++ {
				if !impl.Ready(d, r, 0, false, now) {
					continue
				}
				began = append(began, now-from)
				r, _ = impl.Begin(r, 0, 1+now, now+5)
				r, _ = impl.Finish(d, r, 0, false, now)
			}
			want := runOf(d, state(3, retries+1, 0, 0), states(4)[0], states(4)[0], impl.State{})
			if !slices.Equal(began, tried) || !sameRun(r, want) {
				t.Errorf("with %d Retries it began at %v, and the run is %s", retries, began, tellRun(r))
			}
			// cleared it has all its tries again
			r, ok := impl.ClearTask(d, r, 0)
			if !ok || !impl.Ready(d, r, 0, false, 0) || r.Tasks[0].Tries != 0 || r.Epoch != 1 || r.Tasks[2] != (impl.State{}) {
				t.Errorf("cleared the run is %s, %v", tellRun(r), ok)
			}
		}
	}
}

// a run can be cleared a thousand times
func TestClearedAThousandTimes(t *testing.T) {
	d := diamond()
	r, _ := impl.RunNew(d, span(0, 60))
	for epoch := range 1000 {
		next, ok := impl.ClearTask(d, r, epoch%4)
		if !ok || next.Epoch != epoch+1 || !impl.RunOk(d, next) {
			t.Fatalf("in epoch %d: %s, %v", epoch, tellRun(next), ok)
		}
		r = next
	}
	for i := range 4 {
		refuseClear(t, d, r, i)
	}
	// all else goes on
	begun, _ := impl.Begin(r, 0, 1, 5)
	ended, ok := impl.Finish(d, begun, 0, true, 3)
	if !ok || ended.Epoch != 1000 || !impl.RunOk(d, ended) || !impl.Ready(d, ended, 1, true, 0) {
		t.Errorf("%s, %v", tellRun(ended), ok)
	}
}

// every function answers at every argument
func TestRunsAtStrangeValues(t *testing.T) {
	d := draw(4014)
	numbers := []int{math.MinInt64, math.MinInt64 + 1, -1 << 32, -5, -1, 0, 0, 0, 1, 1, 2, 2, 3, 3, 4, 4, 5, 60, 1000, 68374079, 68374180, 1000000000, 1000000001, 1 << 32, math.MaxInt64 - 1, math.MaxInt64}
	texts := []string{"", "ann", "ann", "ann", "a", "\xff", strings.Repeat("ann", 1000)}
	number := func() int { return numbers[d.below(len(numbers))] }
	text := func() string { return texts[d.below(len(texts))] }
	wrong := slices.DeleteFunc(wrongDags(), func(d impl.Dag) bool { return len(d.Tasks) > 10 })
	rights := 0
	for range 12000 {
		plan := drawnDag(&d)
		dagRight := true
		switch d.below(4) {
		case 0:
			plan, dagRight = wrong[d.below(len(wrong))], false
		case 1:
			plan = []impl.Dag{handDag(), diamond(), chain(), dagOf(one("a"))}[d.below(4)]
		}
		r := impl.Run{Dag: text(), Span: span(number(), number()), Epoch: number()}
		if d.below(2) == 0 {
			r.Dag, r.Span, r.Epoch = plan.Name, span(0, 60), 0
		}
		size := len(plan.Tasks)
		if d.below(4) == 0 {
			size = d.below(8)
		}
		for range size {
			s := state(number(), number(), number(), number())
			switch d.below(4) {
			case 0, 1:
				s = states(d.below(5))[0]
			case 2:
				s = state(d.below(5), 0, 0, number())
			}
			r.Tasks = append(r.Tasks, s)
		}
		if lookAtRun(t, plan, dagRight, r) {
			rights++
		}
		i, token, until, now, past := number(), number(), number(), number(), d.below(2) == 0
		right := dagRight && plainRunOk(plan, r)
		begun, ok := plainBegin(r, i, token, until)
		wantBegin(t, r, i, token, until, begun, ok)
		wantReady(t, plan, r, i, past, now, plainReady(plan, right, r, i, past, now))
		ended, ok := plainFinish(plan, right, r, i, past, now)
		wantFinish(t, plan, r, i, past, now, ended, ok)
		cleared, ok := plainClear(plan, right, r, i)
		wantClear(t, plan, r, i, cleared, ok)
	}
	if rights < 300 || rights > 4000 {
		t.Errorf("%d of 12000 are right", rights)
	}
}

// a run whose list has spare room behind it, and whether it and that room are as they were
func roomyRun(r impl.Run) (impl.Run, func() bool) {
	tasks := append(make([]impl.State, 0, len(r.Tasks)+6), r.Tasks...)
	room := tasks[:cap(tasks)]
	for at := len(tasks); at < len(room); at++ {
		room[at] = state(-at, at, -at, at)
	}
	before := slices.Clone(room)
	r.Tasks = tasks
	return r, func() bool { return slices.Equal(room, before) }
}

func scribbleRun(r impl.Run) {
	all := r.Tasks[:cap(r.Tasks)]
	for at := range all {
		all[at] = state(-77, -78, -79, -80)
	}
}

// all runs that are answered of a plan and a run
func runsAnswered(d impl.Dag, r impl.Run) []impl.Run {
	list := []impl.Run{impl.BlockRest(d, r)}
	keep := func(r impl.Run, _ bool) { list = append(list, r) }
	keep(impl.RunNew(d, span(0, 60)))
	keep(impl.RunNew(d, span(60, 60)))
	for i := -1; i <= len(r.Tasks); i++ {
		keep(impl.Begin(r, i, 7, 8))
		keep(impl.Finish(d, r, i, true, 3))
		keep(impl.Finish(d, r, i, false, 3))
		keep(impl.ClearTask(d, r, i))
	}
	return list
}

// what is asked of a run, and answered without a list
func flagsAnswered(d impl.Dag, r impl.Run) []bool {
	list := []bool{impl.RunOk(d, r), impl.Over(r)}
	for i := -1; i <= len(r.Tasks); i++ {
		list = append(list, impl.Ready(d, r, i, false, 10), impl.Ready(d, r, i, true, 10))
	}
	return list
}

func sameRuns(a, b []impl.Run) bool { return slices.EqualFunc(a, b, sameRun) }

func copyRuns(list []impl.Run) []impl.Run {
	list = slices.Clone(list)
	for at := range list {
		list[at] = copyRun(list[at])
	}
	return list
}

// plans and runs whose lists are looked at for what they share
func sharedRuns() ([]impl.Dag, []impl.Run) {
	d := draw(5014)
	var plans []impl.Dag
	var runs []impl.Run
	put := func(d impl.Dag, r impl.Run) { plans, runs = append(plans, d), append(runs, r) }
	put(impl.Dag{}, impl.Run{})
	put(diamond(), impl.Run{})
	put(impl.Dag{}, runOf(diamond(), states(2, 1, 1, 0)...))
	put(dagOf(one("a", "b"), one("b", "a")), runOf(dagOf(), states(3, 0)...))
	put(diamond(), runOf(diamond(), states(3, 0, 0)...))
	put(diamond(), runOf(diamond(), states(3, 0, 0, 0, 0, 0)...))
	put(diamond(), runOf(diamond(), states(3, 0, 0, 0)...))
	for _, known := range standing() {
		put(diamond(), runOf(diamond(), states(known.kinds...)...))
	}
	for range 200 {
		plan := drawnDag(&d)
		put(plan, drawnRun(&d, plan))
	}
	return plans, runs
}

func TestRunsAreNotWrittenInto(t *testing.T) {
	plans, runs := sharedRuns()
	for at := range plans {
		want, flags := copyRuns(runsAnswered(copyDag(plans[at]), copyRun(runs[at]))), flagsAnswered(plans[at], runs[at])
		d, dagUntouched := roomyDag(copyDag(plans[at]))
		r, runUntouched := roomyRun(runs[at])
		list := runsAnswered(d, r)
		if !sameRuns(list, want) || !slices.Equal(flagsAnswered(d, r), flags) || !dagUntouched() || !runUntouched() {
			t.Fatalf("something is written into %s or %s", tellDag(plans[at]), tellRun(runs[at]))
		}
		// nothing of them is kept, and nothing of what was answered is theirs
		scribbleDag(d)
		scribbleRun(r)
		if !sameRuns(list, want) {
			t.Fatalf("the answers of %s and %s have changed", tellDag(plans[at]), tellRun(runs[at]))
		}
		if again := runsAnswered(plans[at], runs[at]); !sameRuns(again, want) || !slices.Equal(flagsAnswered(plans[at], runs[at]), flags) {
			t.Fatalf("of %s and %s is answered %v then", tellDag(plans[at]), tellRun(runs[at]), again)
		}
	}
}

func TestRunsAreNewMemory(t *testing.T) {
	plans, runs := sharedRuns()
	for at := range plans {
		d, dagUntouched := roomyDag(copyDag(plans[at]))
		r, runUntouched := roomyRun(runs[at])
		want := copyRuns(runsAnswered(d, r))
		for written := range want {
			list, others := runsAnswered(d, r), runsAnswered(d, r)
			scribbleRun(list[written])
			if !dagUntouched() || !runUntouched() {
				t.Fatalf("an answer of %s and %s shares memory with them", tellDag(plans[at]), tellRun(runs[at]))
			}
			list[written] = want[written]
			if !sameRuns(list, want) || !sameRuns(others, want) || !sameRuns(runsAnswered(d, r), want) {
				t.Fatalf("two answers of %s and %s share memory", tellDag(plans[at]), tellRun(runs[at]))
			}
			// what is put behind one list is seen in no other, nor in an argument
			for _, other := range others {
				_ = append(other.Tasks, state(-1, -2, -3, -4))
			}
			if !sameRuns(others, want) || !runUntouched() {
				t.Fatalf("two answers of %s and %s share the room behind them", tellDag(plans[at]), tellRun(runs[at]))
			}
		}
	}
}

func TestRunTextsAreNewMemory(t *testing.T) {
	for _, name := range []string{"a", "ann", "abcdefgh"} {
		d := diamond()
		d.Name = strings.Clone(name)
		for _, known := range standing() {
			r := runOf(d, states(known.kinds...)...)
			r.Dag = strings.Clone(name)
			first, second := runsAnswered(d, r), runsAnswered(d, r)
			named := 0
			for at := range first {
				if first[at].Dag == "" {
					continue
				}
				named++
				for _, other := range []string{d.Name, r.Dag, second[at].Dag} {
					if sharesBytes(first[at].Dag, other) {
						t.Fatalf("answer %d of %s has bytes of an argument, or of another answer", at, tellRun(r))
					}
				}
			}
			if named < 2 {
				t.Fatalf("of %s are answered %d runs", tellRun(r), named)
			}
		}
	}
}

// an empty list is nil, as it comes in and as it is answered
func TestEmptyRunLists(t *testing.T) {
	d := diamond()
	for _, r := range []impl.Run{{Dag: "ann", Span: span(0, 60)}, {Dag: "ann", Span: span(0, 60), Tasks: []impl.State{}}} {
		wantRunOk(t, d, r, false)
		wantOver(t, r, true)
		wantBlockRest(t, d, r, r)
		wantBlockRest(t, impl.Dag{}, r, r)
		wantReady(t, d, r, 0, true, 10, false)
		wantBegin(t, r, 0, 7, 8, impl.Run{}, false)
		refuseFinish(t, d, r, 0, 3)
		refuseClear(t, d, r, 0)
	}
	// the same of a plan's After
	empty := copyDag(dagOf(one("a"), one("b")))
	for at := range empty.Tasks {
		empty.Tasks[at].After = []string{}
	}
	wantRunNew(t, empty, span(0, 60), runOf(empty, states(0, 0)...), true)
	wantFinish(t, empty, runOf(empty, states(1, 0)...), 0, true, 3, runOf(empty, states(2, 0)...), true)
	wantReady(t, empty, runOf(empty, states(1, 0)...), 1, false, 0, true)
}

// what one call answers has no part in what the next one does
func TestRunsKeepNothing(t *testing.T) {
	long, wide := chain(), dagOf(one("a"), one("b"), one("c"), one("d"))
	for range 3 {
		wantBlockRest(t, long, runOf(long, states(3, 0, 0, 0)...), runOf(long, states(3, 4, 4, 4)...))
		wantBlockRest(t, wide, runOf(wide, states(3, 0, 0, 0)...), runOf(wide, states(3, 0, 0, 0)...))
		wantRunOk(t, long, runOf(long, states(3, 0, 0, 0)...), false)
		wantRunOk(t, wide, runOf(wide, states(3, 0, 0, 0)...), true)
		wantReady(t, long, runOf(long, states(2, 0, 0, 0)...), 1, false, 0, true)
		wantReady(t, long, runOf(long, states(1, 0, 0, 0)...), 1, false, 0, false)
		wantReady(t, wide, runOf(wide, states(1, 0, 0, 0)...), 1, false, 0, true)
		wantRunNew(t, impl.Dag{}, span(0, 60), impl.Run{}, false)
		wantRunNew(t, wide, span(0, 60), runOf(wide, states(0, 0, 0, 0)...), true)
		wantBegin(t, runOf(wide, states(0, 0, 0, 0)...), 2, 3, 0, runOf(wide, states(0, 0, 1, 0)...), true)
		refuseClear(t, wide, runOf(wide, states(0, 0, 1, 0)...), 2)
		refuseFinish(t, wide, runOf(wide, states(0, 0, 0, 0)...), 2, 3)
	}
}
