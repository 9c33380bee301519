package tests

import (
	"fmt"
	"math"
	"slices"
	"strings"
	"testing"

	"loop.example/g00188/impl"
)

// a task in which nothing but its name and After is of interest
func one(name string, after ...string) impl.Task { return task(name, "one", 0, false, after...) }

// all orders of the numbers 0 .. n-1, the one whose first number is less ahead of the other
func ordersOf(n int) [][]int {
	orders := [][]int{nil}
	for range n {
		var longer [][]int
		for _, order := range orders {
			for next := range n {
				if !slices.Contains(order, next) {
					longer = append(longer, append(slices.Clone(order), next))
				}
			}
		}
		orders = longer
	}
	return orders
}

// whether each place of a whole order stands behind those that its task is After
func isInOrder(d impl.Dag, order []int) bool {
	for at, place := range order {
		for _, name := range d.Tasks[place].After {
			if !slices.ContainsFunc(order[:at], func(ahead int) bool { return d.Tasks[ahead].Name == name }) {
				return false
			}
		}
	}
	return true
}

// the orders of as many tasks as a right plan may have, made once
var orders = [][][]int{ordersOf(0), ordersOf(1), ordersOf(2), ordersOf(3), ordersOf(4)}

// of all orders of a right plan the first one that may be: where several may come next, that of the least place is ahead of the others
func plainOrder(d impl.Dag) []int {
	for _, order := range orders[len(d.Tasks)] {
		if isInOrder(d, order) {
			return order
		}
	}
	panic("no order of " + tellDag(d))
}

func plainUps(d impl.Dag, i int) []int {
	var ups []int
	for at, t := range d.Tasks {
		if slices.Contains(d.Tasks[i].After, t.Name) {
			ups = append(ups, at)
		}
	}
	return ups
}

func plainDowns(d impl.Dag, i int) []int {
	var downs []int
	for at, t := range d.Tasks {
		if goesTo(d.Tasks, t, d.Tasks[i].Name, 4) {
			downs = append(downs, at)
		}
	}
	return downs
}

// how many of an order's first places come one behind the other
func chainOf(d impl.Dag, order []int) int {
	count := 1
	for count < len(order) && slices.Contains(d.Tasks[order[count]].After, d.Tasks[order[count-1]].Name) {
		count++
	}
	return count
}

func plainHeight(d impl.Dag) int {
	height := 0
	for _, order := range orders[len(d.Tasks)] {
		height = max(height, chainOf(d, order))
	}
	return height
}

func wantTaskAt(t *testing.T, d impl.Dag, name string, want int) {
	t.Helper()
	if got := impl.TaskAt(d, name); got != want {
		t.Fatalf("TaskAt(%.300s, %.20q) = %d, want %d", tellDag(d), name, got, want)
	}
}

func wantOrder(t *testing.T, d impl.Dag, want ...int) {
	t.Helper()
	if got := impl.OrderOf(d); !slices.Equal(got, want) {
		t.Fatalf("OrderOf(%.300s) = %v, want %v", tellDag(d), got, want)
	}
}

func wantUps(t *testing.T, d impl.Dag, i int, want ...int) {
	t.Helper()
	if got := impl.UpsOf(d, i); !slices.Equal(got, want) {
		t.Fatalf("UpsOf(%.300s, %d) = %v, want %v", tellDag(d), i, got, want)
	}
}

func wantDowns(t *testing.T, d impl.Dag, i int, want ...int) {
	t.Helper()
	if got := impl.DownsOf(d, i); !slices.Equal(got, want) {
		t.Fatalf("DownsOf(%.300s, %d) = %v, want %v", tellDag(d), i, got, want)
	}
}

func wantHeight(t *testing.T, d impl.Dag, want int) {
	t.Helper()
	if got := impl.HeightOf(d); got != want {
		t.Fatalf("HeightOf(%.300s) = %d, want %d", tellDag(d), got, want)
	}
}

// places that no plan of four tasks at most has
func placesOfNone() []int {
	return []int{math.MinInt64, math.MinInt64 + 1, -1 << 32, -1<<32 + 1, -5, -4, -3, -2, -1, 4, 5, 6, 255, 256, 257, 1 << 16, 1 << 32, 1<<32 + 1, 1<<32 + 2, 1<<32 + 3, math.MaxInt64 - 1, math.MaxInt64}
}

func allPlaces() []int { return append(placesOfNone(), 0, 1, 2, 3) }

// a plan that is not right: it has no order
func wantNoOrder(t *testing.T, d impl.Dag) {
	t.Helper()
	wantOrder(t, d)
	wantHeight(t, d, 0)
	for _, i := range append(allPlaces(), len(d.Tasks)-1, len(d.Tasks), len(d.Tasks)+1) {
		wantUps(t, d, i)
		wantDowns(t, d, i)
	}
}

// promise 13, asked of the answers themselves: each place stands in the order once, behind the places of all that its task is After
func lookAtPromise(t *testing.T, d impl.Dag) {
	t.Helper()
	order := impl.OrderOf(d)
	if len(order) != len(d.Tasks) {
		t.Fatalf("OrderOf(%s) = %v: %d places", tellDag(d), order, len(order))
	}
	stands := map[string]int{}
	for at, place := range order {
		if place < 0 || place >= len(d.Tasks) || slices.Contains(order[:at], place) {
			t.Fatalf("OrderOf(%s) = %v: %d is none, or stands twice", tellDag(d), order, place)
		}
		stands[d.Tasks[place].Name] = at
	}
	for i, one := range d.Tasks {
		for _, name := range one.After {
			if stands[name] >= stands[one.Name] {
				t.Fatalf("OrderOf(%s) = %v: %s does not stand behind %s", tellDag(d), order, one.Name, name)
			}
		}
		for _, down := range impl.DownsOf(d, i) {
			if stands[d.Tasks[down].Name] <= stands[one.Name] {
				t.Fatalf("DownsOf(%s, %d) has %d, OrderOf is %v", tellDag(d), i, down, order)
			}
		}
	}
	lookAtWays(t, d)
}

// the ways down from each task, step by step by UpsOf, lead just to its DownsOf
func lookAtWays(t *testing.T, d impl.Dag) {
	t.Helper()
	var ups [][]int
	for i := range d.Tasks {
		ups = append(ups, impl.UpsOf(d, i))
	}
	for i := range d.Tasks {
		var reached []int
		leads := func(up int) bool { return up == i || slices.Contains(reached, up) }
		for range d.Tasks {
			for at := range d.Tasks {
				if !slices.Contains(reached, at) && slices.ContainsFunc(ups[at], leads) {
					reached = append(reached, at)
				}
			}
		}
		slices.Sort(reached)
		wantDowns(t, d, i, reached...)
		if slices.Contains(reached, i) {
			t.Fatalf("%s: %d comes behind itself", tellDag(d), i)
		}
	}
}

// a right plan against the chapter's words done anew, and the promise
func acceptOrder(t *testing.T, d impl.Dag) {
	t.Helper()
	wantOrder(t, d, plainOrder(d)...)
	wantHeight(t, d, plainHeight(d))
	for i, one := range d.Tasks {
		wantUps(t, d, i, plainUps(d, i)...)
		wantDowns(t, d, i, plainDowns(d, i)...)
		wantTaskAt(t, d, one.Name, i)
	}
	for _, i := range []int{-2, -1, len(d.Tasks), len(d.Tasks) + 1} {
		wantUps(t, d, i)
		wantDowns(t, d, i)
	}
	lookAtPromise(t, d)
}

// a plan, right or not; whether it is right
func lookAtOrder(t *testing.T, d impl.Dag) bool {
	t.Helper()
	right := plainDagOk(d)
	if right {
		acceptOrder(t, d)
	} else {
		wantNoOrder(t, d)
	}
	return right
}

// each choice of After among so many tasks with these names, right or not
func graphsOf(names []string) []impl.Dag {
	count := len(names)
	var list []impl.Dag
	for graph := range 1 << (count * count) {
		var tasks []impl.Task
		for at, name := range names {
			var after []string
			for other := range count {
				if graph>>(at*count+other)&1 == 1 {
					after = append(after, names[other])
				}
			}
			slices.Sort(after)
			tasks = append(tasks, one(name, after...))
		}
		list = append(list, dagOf(tasks...))
	}
	return list
}

// the plan with its tasks in this order
func inPlaces(d impl.Dag, order []int) impl.Dag {
	var tasks []impl.Task
	for _, place := range order {
		tasks = append(tasks, d.Tasks[place])
	}
	d.Tasks = tasks
	return d
}

// as many of the graphs of one to four tasks are right as there are graphs without a ring
func TestOrderOfAllGraphs(t *testing.T) {
	for ahead, want := range []int{1, 3, 25, 543} {
		names := []string{"b", "ann", "c", "a"}[:ahead+1]
		right := 0
		for _, d := range graphsOf(names) {
			if !plainDagOk(d) {
				wantOrder(t, d)
				wantHeight(t, d, 0)
				for i := range names {
					wantUps(t, d, i)
					wantDowns(t, d, i)
				}
				continue
			}
			right++
			for _, order := range orders[len(names)] {
				acceptOrder(t, inPlaces(d, order))
			}
		}
		if right != want {
			t.Errorf("%d plans of %d tasks are right, not %d", right, len(names), want)
		}
	}
}

func TestOrderOfDrawnDags(t *testing.T) {
	d := draw(13)
	heights := [5]int{}
	for range 4000 {
		plan := drawnDag(&d)
		acceptOrder(t, plan)
		heights[impl.HeightOf(plan)]++
	}
	if slices.Min(heights[1:]) < 30 || heights[0] > 0 {
		t.Errorf("the heights stand so often: %v", heights)
	}
}

// what ParseDag tells of a text, in the order of its lines
func TestOrderOfTexts(t *testing.T) {
	for _, known := range []struct {
		tasks  []string
		order  []int
		height int
	}{
		{[]string{"task a one 1 free"}, []int{0}, 1},
		{[]string{"task a one 1 free", "task b two 0 past a"}, []int{0, 1}, 2},
		{[]string{"task b two 0 past a", "task a one 1 free"}, []int{1, 0}, 2},
		{[]string{"task d wide 3 past c,b", "task c one 0 free a", "task b one 0 free a", "task a two 0 free"}, []int{3, 1, 2, 0}, 3},
	} {
		d, line := impl.ParseDag(textOf(append(handLines()[:5], known.tasks...)...))
		if line != 0 {
			t.Fatalf("a fault in line %d of %q", line, known.tasks)
		}
		wantOrder(t, d, known.order...)
		wantHeight(t, d, known.height)
		acceptOrder(t, d)
	}
	// what it refuses is a plan without tasks
	d, _ := impl.ParseDag(textOf(append(handLines()[:5], "task a one 0 free b", "task b one 0 free a")...))
	wantNoOrder(t, d)
	wantTaskAt(t, d, "a", -1)
}

func TestKnownOrders(t *testing.T) {
	for _, known := range []struct {
		tasks []impl.Task
		want  []int
	}{
		{[]impl.Task{one("a")}, []int{0}},
		{[]impl.Task{one("z")}, []int{0}},
		// side by side: by place, whatever the names are
		{[]impl.Task{one("a"), one("b"), one("c"), one("d")}, []int{0, 1, 2, 3}},
		{[]impl.Task{one("d"), one("c"), one("b"), one("a")}, []int{0, 1, 2, 3}},
		{[]impl.Task{one("b"), one("a"), one("c")}, []int{0, 1, 2}},
		// one behind the other
		{[]impl.Task{one("a"), one("b", "a"), one("c", "b"), one("d", "c")}, []int{0, 1, 2, 3}},
		{[]impl.Task{one("d", "c"), one("c", "b"), one("b", "a"), one("a")}, []int{3, 2, 1, 0}},
		{[]impl.Task{one("a", "c"), one("b", "d"), one("c", "b"), one("d")}, []int{3, 1, 2, 0}},
		// a greater place is free from the beginning, a lesser one only later: it comes ahead all the same
		{[]impl.Task{one("a"), one("b", "a"), one("c")}, []int{0, 1, 2}},
		{[]impl.Task{one("a"), one("b", "a"), one("c", "b"), one("d")}, []int{0, 1, 2, 3}},
		{[]impl.Task{one("a", "b"), one("b"), one("c"), one("d")}, []int{1, 0, 2, 3}},
		{[]impl.Task{one("a", "c"), one("b", "a"), one("c"), one("d")}, []int{2, 0, 1, 3}},
		{[]impl.Task{one("a", "b"), one("b", "c"), one("c"), one("d")}, []int{2, 1, 0, 3}},
		{[]impl.Task{one("a", "c"), one("b"), one("c"), one("d")}, []int{1, 2, 0, 3}},
		{[]impl.Task{one("a", "b", "c"), one("b"), one("c"), one("d")}, []int{1, 2, 0, 3}},
		{[]impl.Task{one("a", "d"), one("b"), one("c", "b"), one("d")}, []int{1, 2, 3, 0}},
		{[]impl.Task{one("a", "d"), one("b", "c"), one("c"), one("d", "c")}, []int{2, 1, 3, 0}},
		// several come free at once
		{[]impl.Task{one("b", "a"), one("c", "a"), one("d", "a"), one("a")}, []int{3, 0, 1, 2}},
		{[]impl.Task{one("d", "a"), one("a"), one("c", "a"), one("b", "a")}, []int{1, 0, 2, 3}},
		// one that waits for all others
		{[]impl.Task{one("a", "b", "c", "d"), one("b"), one("c"), one("d")}, []int{1, 2, 3, 0}},
		{[]impl.Task{one("a", "b", "c", "d"), one("b", "d"), one("c"), one("d")}, []int{2, 3, 1, 0}},
		// two ways from one to another
		{[]impl.Task{one("d", "b", "c"), one("b", "a"), one("c", "a"), one("a")}, []int{3, 1, 2, 0}},
		{[]impl.Task{one("a"), one("d", "b", "c"), one("c", "a"), one("b", "a")}, []int{0, 2, 3, 1}},
		// all that may be after all
		{[]impl.Task{one("d", "a", "b", "c"), one("c", "a", "b"), one("b", "a"), one("a")}, []int{3, 2, 1, 0}},
	} {
		wantOrder(t, dagOf(known.tasks...), known.want...)
		acceptOrder(t, dagOf(known.tasks...))
	}
}

// what is told of a task beside its After has no part in the order
func TestOrderOfOtherFields(t *testing.T) {
	for _, pool := range []string{"one", "two", "wide"} {
		for retries := range 4 {
			for _, past := range []bool{false, true} {
				d := dag("z", "1 2 3 4 5", 7, 8, past, task("c", pool, retries, past, "b"), task("b", "one", 3-retries, !past, "a"), task("a", pool, 0, past), task("x", "two", retries, true))
				wantOrder(t, d, 2, 1, 0, 3)
				wantHeight(t, d, 3)
				wantUps(t, d, 0, 1)
				wantDowns(t, d, 2, 0, 1)
				acceptOrder(t, d)
			}
		}
	}
}

func TestKnownUps(t *testing.T) {
	// the names ascend, their places do not
	d := dagOf(one("z"), one("m", "a", "k", "z"), one("k"), one("a"))
	wantUps(t, d, 0)
	wantUps(t, d, 1, 0, 2, 3)
	wantUps(t, d, 2)
	wantUps(t, d, 3)
	d = dagOf(one("d", "a", "b", "c"), one("c", "a", "b"), one("b", "a"), one("a"))
	wantUps(t, d, 0, 1, 2, 3)
	wantUps(t, d, 1, 2, 3)
	wantUps(t, d, 2, 3)
	wantUps(t, d, 3)
	// what it is After alone, not what these are After
	d = dagOf(one("a"), one("b", "a"), one("c", "b"), one("d", "c"))
	wantUps(t, d, 0)
	wantUps(t, d, 1, 0)
	wantUps(t, d, 2, 1)
	wantUps(t, d, 3, 2)
	// a name that another one begins with
	d = dagOf(one("ab"), one("a"), one("a1"), one("x", "a", "ab"))
	wantUps(t, d, 3, 0, 1)
	d.Tasks[3].After = []string{"a1"}
	wantUps(t, d, 3, 2)
	d.Tasks[3].After = []string{"a", "a1"}
	wantUps(t, d, 3, 1, 2)
}

func TestKnownDowns(t *testing.T) {
	// through none, one and two others: of four tasks there are no more between
	d := dagOf(one("a"), one("b", "a"), one("c", "b"), one("d", "c"))
	wantDowns(t, d, 0, 1, 2, 3)
	wantDowns(t, d, 1, 2, 3)
	wantDowns(t, d, 2, 3)
	wantDowns(t, d, 3)
	d = dagOf(one("d", "c"), one("c", "b"), one("b", "a"), one("a"))
	wantDowns(t, d, 3, 0, 1, 2)
	wantDowns(t, d, 2, 0, 1)
	wantDowns(t, d, 1, 0)
	wantDowns(t, d, 0)
	d = dagOf(one("a", "c"), one("b", "d"), one("c", "b"), one("d"))
	wantDowns(t, d, 3, 0, 1, 2)
	wantDowns(t, d, 1, 0, 2)
	wantDowns(t, d, 2, 0)
	wantDowns(t, d, 0)
	// by two ways at once, and by a way beside a shorter one
	d = dagOf(one("d", "b", "c"), one("b", "a"), one("c", "a"), one("a"))
	wantDowns(t, d, 3, 0, 1, 2)
	wantDowns(t, d, 1, 0)
	wantDowns(t, d, 2, 0)
	wantDowns(t, d, 0)
	d = dagOf(one("a"), one("d", "a", "c"), one("c", "b"), one("b", "a"))
	wantDowns(t, d, 0, 1, 2, 3)
	wantDowns(t, d, 3, 1, 2)
	wantDowns(t, d, 2, 1)
	wantDowns(t, d, 1)
	// all that may be after all
	d = dagOf(one("d", "a", "b", "c"), one("c", "a", "b"), one("b", "a"), one("a"))
	wantDowns(t, d, 3, 0, 1, 2)
	wantDowns(t, d, 2, 0, 1)
	wantDowns(t, d, 1, 0)
	wantDowns(t, d, 0)
	// beside each other, and two by two
	d = dagOf(one("a"), one("b"), one("c"), one("d"))
	for i := range 4 {
		wantDowns(t, d, i)
	}
	d = dagOf(one("a"), one("b", "d"), one("c", "a"), one("d"))
	wantDowns(t, d, 0, 2)
	wantDowns(t, d, 1)
	wantDowns(t, d, 2)
	wantDowns(t, d, 3, 1)
	// one alone
	wantDowns(t, dagOf(one("a")), 0)
}

func TestPlacesOfNone(t *testing.T) {
	d := draw(1013)
	plans := []impl.Dag{dagOf(one("a")), dagOf(one("a"), one("b", "a")), dagOf(one("c", "a", "b"), one("b", "a"), one("a")), dagOf(one("a"), one("b", "a"), one("c", "b"), one("d", "c")), dagOf(one("d", "a", "b", "c"), one("c", "a", "b"), one("b", "a"), one("a"))}
	for range 200 {
		plans = append(plans, drawnDag(&d))
	}
	for _, plan := range plans {
		count := len(plan.Tasks)
		for _, i := range append(placesOfNone(), count, count+1) {
			wantUps(t, plan, i)
			wantDowns(t, plan, i)
		}
		acceptOrder(t, plan)
	}
}

func TestKnownHeights(t *testing.T) {
	for _, known := range []struct {
		want  int
		tasks []impl.Task
	}{
		{1, []impl.Task{one("a")}},
		// side by side
		{1, []impl.Task{one("a"), one("b")}},
		{1, []impl.Task{one("c"), one("b"), one("a")}},
		{1, []impl.Task{one("a"), one("b"), one("c"), one("d")}},
		// one behind the other
		{2, []impl.Task{one("a"), one("b", "a")}},
		{2, []impl.Task{one("b", "a"), one("a")}},
		{3, []impl.Task{one("a"), one("b", "a"), one("c", "b")}},
		{3, []impl.Task{one("c", "b"), one("b", "a"), one("a")}},
		{4, []impl.Task{one("a"), one("b", "a"), one("c", "b"), one("d", "c")}},
		{4, []impl.Task{one("d", "c"), one("c", "b"), one("b", "a"), one("a")}},
		{4, []impl.Task{one("a", "c"), one("b", "d"), one("c", "b"), one("d")}},
		{4, []impl.Task{one("d", "a", "b", "c"), one("c", "a", "b"), one("b", "a"), one("a")}},
		// many, but none of them behind another
		{2, []impl.Task{one("d", "a", "b", "c"), one("a"), one("b"), one("c")}},
		{2, []impl.Task{one("a"), one("b", "a"), one("c", "a"), one("d", "a")}},
		{2, []impl.Task{one("a"), one("b"), one("c", "a", "b"), one("d", "a", "b")}},
		{2, []impl.Task{one("a"), one("b", "a"), one("c"), one("d", "c")}},
		// two ways of the same length, and of unlike ones
		{3, []impl.Task{one("a"), one("b", "a"), one("c", "a"), one("d", "b", "c")}},
		{3, []impl.Task{one("a"), one("b", "a"), one("c", "a", "b")}},
		{3, []impl.Task{one("a"), one("b", "a"), one("c", "a", "b"), one("d")}},
		{4, []impl.Task{one("a"), one("d", "a", "c"), one("c", "b"), one("b", "a")}},
		{3, []impl.Task{one("a"), one("z"), one("c", "a"), one("d", "c", "z")}},
		{3, []impl.Task{one("z"), one("a"), one("d", "c", "z"), one("c", "a")}},
		// the longest does not end with the last one, nor with the first one in the order
		{3, []impl.Task{one("a"), one("b", "a"), one("c", "b"), one("d")}},
		{3, []impl.Task{one("x"), one("c", "b"), one("b", "a"), one("a")}},
		{3, []impl.Task{one("a"), one("b", "a"), one("c", "b"), one("d", "a")}},
	} {
		wantHeight(t, dagOf(known.tasks...), known.want)
		acceptOrder(t, dagOf(known.tasks...))
	}
}

// plans that are not right, by what is wrong with them
func wrongDags() []impl.Dag {
	right := []impl.Task{one("a"), one("b", "a")}
	list := []impl.Dag{
		{},
		// no task at all, and five
		dagOf(),
		dagOf([]impl.Task{}...),
		dagOf(one("a"), one("b"), one("c"), one("d"), one("e")),
		dagOf(one("a"), one("b", "a"), one("c", "b"), one("d", "c"), one("e", "d")),
		dagOf(one("e", "a"), one("a"), one("b"), one("c"), one("d")),
		// a ring of one, two, three and four
		dagOf(one("a", "a")),
		dagOf(one("a", "b"), one("b", "a")),
		dagOf(one("a", "b"), one("b", "c"), one("c", "a")),
		dagOf(one("a", "c"), one("b", "a"), one("c", "b")),
		dagOf(one("a", "b"), one("b", "c"), one("c", "d"), one("d", "a")),
		dagOf(one("a", "d"), one("b", "a"), one("c", "b"), one("d", "c")),
		dagOf(one("a", "c"), one("b", "d"), one("c", "b"), one("d", "a")),
		dagOf(one("a", "b", "c", "d"), one("b", "a", "c", "d"), one("c", "a", "b", "d"), one("d", "a", "b", "c")),
		// two rings
		dagOf(one("a", "b"), one("b", "a"), one("c", "d"), one("d", "c")),
		// a ring beside tasks in none, ahead of them and behind them
		dagOf(one("a"), one("b", "b")),
		dagOf(one("a"), one("b", "c"), one("c", "b")),
		dagOf(one("a", "b"), one("b", "a"), one("c")),
		dagOf(one("a", "b"), one("b", "a"), one("c"), one("d", "c")),
		dagOf(one("a"), one("b", "a", "c"), one("c", "b"), one("d", "c")),
		dagOf(one("a"), one("b", "c"), one("c", "d"), one("d", "b")),
		dagOf(one("a"), one("b", "a", "d"), one("c", "b"), one("d", "c")),
		dagOf(one("a", "b"), one("b", "c"), one("c", "a"), one("d", "a")),
		dagOf(one("d"), one("a", "b"), one("b", "c"), one("c", "a", "d")),
		// a name that stands twice
		dagOf(one("a"), one("a")),
		dagOf(one("a"), one("b"), one("a")),
		dagOf(one("a"), one("b"), one("b", "a"), one("c", "b")),
		dagOf(one("a"), one("b", "a"), one("c"), one("c", "a", "b")),
		dagOf(one("a"), one("a"), one("a"), one("a")),
		dagOf(one("b", "a"), one("a"), one("a")),
		// an After that names no task, the task itself, a name twice, or names in another order
		dagOf(one("a", "b")),
		dagOf(one("a"), one("b", "c")),
		dagOf(one("a"), one("b", "a", "c")),
		dagOf(one("a"), one("b", "ann")),
		dagOf(one("a"), one("b", "A")),
		dagOf(one("a"), one("b", "")),
		dagOf(one("a"), one("b", "b")),
		dagOf(one("a"), one("b", "a", "b")),
		dagOf(one("a"), one("b", "a", "a")),
		dagOf(one("a"), one("b"), one("c", "b", "a")),
		dagOf(one("a"), one("b"), one("c", "a", "b", "a")),
		// names that are none
		dagOf(one("")),
		dagOf(one(""), one("b", "")),
		dagOf(one("A"), one("b")),
		dagOf(one("1"), one("b", "1")),
		dagOf(one("abcdefghi"), one("b", "abcdefghi")),
		dagOf(make([]impl.Task, 1)...),
		dagOf(make([]impl.Task, 4)...),
		// pools and Retries that are none
		dagOf(one("a"), task("b", "", 0, false, "a")),
		dagOf(one("a"), task("b", "three", 0, false, "a")),
		dagOf(one("a"), task("b", "one", 4, false, "a")),
		dagOf(task("a", "one", -1, false), one("b", "a")),
		dagOf(task("a", "one", math.MaxInt64, false), one("b", "a")),
		// many
		dagOf(slices.Repeat(right, 5000)...),
		dagOf(one("a"), one("b", slices.Repeat([]string{"a"}, 20000)...)),
	}
	for _, rule := range []string{"", " ", "*", "* * * *", "* * * * * *", "60 * * * *", "*/30 * * * *", "0-59 * * * *", "1,0 * * * *", " 0 * * * *", "0 * * * * ", "0 * * * *\n", "a b c d e", "\xff", strings.Repeat("* ", 5000)} {
		list = append(list, dag("ann", rule, 0, 600, true, right...))
	}
	for _, name := range []string{"", "Ann", "1", "a b", "abcdefghi", "\xff", strings.Repeat("a", 5000)} {
		list = append(list, dag(name, "0 * * * *", 0, 600, true, right...))
	}
	for _, ends := range [][2]int{{-1, 600}, {601, 600}, {0, -1}, {0, impl.MaxMinute + 1}, {impl.MaxMinute + 1, impl.MaxMinute + 1}, {math.MinInt64, 600}, {0, math.MaxInt64}, {math.MaxInt64, math.MinInt64}} {
		list = append(list, dag("ann", "0 * * * *", ends[0], ends[1], true, right...))
	}
	return list
}

func TestOrderOfWrongDags(t *testing.T) {
	for _, d := range wrongDags() {
		if plainDagOk(d) {
			t.Fatalf("%s is right by hand", tellDag(d))
		}
		wantNoOrder(t, d)
	}
	// the same tasks in a right plan have an order
	wantOrder(t, dagOf(one("a"), one("b", "a")), 0, 1)
}

// rings in each order of place
func TestOrderOfRings(t *testing.T) {
	names := []string{"a", "b", "c", "d"}
	for count := 2; count <= 4; count++ {
		for _, order := range ordersOf(4) {
			tasks := []impl.Task{one("a"), one("b"), one("c"), one("d")}
			for at := range count {
				tasks[order[at]].After = []string{names[order[(at+1)%count]]}
			}
			wantNoOrder(t, dagOf(tasks...))
			// what is in no ring comes behind it, or ahead of it
			for at := count; at < 4; at++ {
				behind := copyDag(dagOf(tasks...))
				behind.Tasks[order[at]].After = []string{names[order[0]]}
				wantNoOrder(t, behind)
				ahead := copyDag(dagOf(tasks...))
				after := append(ahead.Tasks[order[0]].After, names[order[at]])
				slices.Sort(after)
				ahead.Tasks[order[0]].After = after
				wantNoOrder(t, ahead)
			}
			// without one of its steps it is none
			tasks[order[0]].After = nil
			acceptOrder(t, dagOf(tasks...))
			wantHeight(t, dagOf(tasks...), count)
		}
	}
}

func TestDrawnWrongOrders(t *testing.T) {
	d := draw(2013)
	rights := 0
	for range 8000 {
		plan := drawnDag(&d)
		one := &plan.Tasks[d.below(len(plan.Tasks))]
		other := plan.Tasks[d.below(len(plan.Tasks))].Name
		switch d.below(8) {
		case 0:
			one.After = slices.Compact(slices.Sorted(slices.Values(append(one.After, other))))
		case 1:
			one.After = append(one.After, other)
		case 2:
			slices.Reverse(one.After)
		case 3:
			one.Name = other
		case 4:
			one.Name = drawnName(&d)
		case 5:
			plan.Tasks = append(plan.Tasks, task(drawnName(&d), "one", 0, false, other))
		case 6:
			plan.Cron = []string{"", "* * * * *", "*/2 * * * *"}[d.below(3)]
		case 7:
			one.Retries += d.below(3)
		}
		if lookAtOrder(t, plan) {
			rights++
		}
	}
	if rights < 2000 || rights > 6000 {
		t.Errorf("%d of 8000 are right", rights)
	}
}

func TestTaskAt(t *testing.T) {
	d := draw(3013)
	strange := []string{"", " ", "A", "a ", " a", "a\n", "a\x00", "\xff", "ann", "one", "dag", "task", "0", "aaaaaaaaa", strings.Repeat("a", 1<<16)}
	for range 2000 {
		plan := drawnDag(&d)
		var names []string
		for at, one := range plan.Tasks {
			wantTaskAt(t, plan, one.Name, at)
			wantTaskAt(t, plan, strings.Clone(one.Name), at)
			names = append(names, one.Name)
		}
		for _, one := range plan.Tasks {
			for _, other := range []string{one.Name + "x", one.Name + " ", one.Name[1:], one.Name[:len(one.Name)-1], strings.ToUpper(one.Name), drawnName(&d), plan.Name, one.Pool} {
				wantTaskAt(t, plan, other, slices.Index(names, other))
			}
		}
		for _, name := range strange {
			wantTaskAt(t, plan, name, slices.Index(names, name))
		}
		wantTaskAt(t, plan, "", -1)
	}
	known := dagOf(one("z"), one("a1", "z"), one("a"), one("ab", "a", "a1"))
	for at, name := range []string{"z", "a1", "a", "ab"} {
		wantTaskAt(t, known, name, at)
	}
	for _, name := range []string{"", "b", "A", "a2", "abc", "z1", "ann", "one", "a,a1"} {
		wantTaskAt(t, known, name, -1)
	}
	// a plan without tasks
	for _, name := range append(strange, "a") {
		wantTaskAt(t, impl.Dag{}, name, -1)
		wantTaskAt(t, dagOf(), name, -1)
		wantTaskAt(t, impl.Dag{Name: "a", Tasks: []impl.Task{}}, name, -1)
	}
}

// whether a plan is right is not asked
func TestTaskAtOfWrongDags(t *testing.T) {
	for _, d := range wrongDags() {
		first := map[string]int{}
		for at, one := range d.Tasks {
			if _, known := first[one.Name]; !known {
				first[one.Name] = at
			}
		}
		for name, at := range first {
			wantTaskAt(t, d, name, at)
		}
		for _, name := range []string{"", "a", "b", "e", "x", "ann", "\xff"} {
			at, known := first[name]
			if !known {
				at = -1
			}
			wantTaskAt(t, d, name, at)
		}
	}
	wantTaskAt(t, dagOf(one("a", "b"), one("b", "a")), "b", 1)
	wantTaskAt(t, dagOf(one("a"), one("b"), one("c"), one("d"), one("e")), "e", 4)
	wantTaskAt(t, impl.Dag{Tasks: []impl.Task{{Name: "x"}, {}}}, "", 1)
	wantTaskAt(t, impl.Dag{Tasks: []impl.Task{{}, {Name: "\xff\x00"}}}, "\xff\x00", 1)
	// of two with one name the first
	wantTaskAt(t, dagOf(one("b"), one("a"), one("a")), "a", 1)
	var many []impl.Task
	for n := range 3000 {
		many = append(many, one(fmt.Sprint("t", n)))
	}
	for _, n := range []int{0, 1, 3, 4, 5, 255, 256, 2998, 2999} {
		wantTaskAt(t, dagOf(many...), fmt.Sprint("t", n), n)
	}
	wantTaskAt(t, dagOf(many...), "t3000", -1)
}

// every function answers at every argument
func TestOrdersAtStrangeValues(t *testing.T) {
	texts := []string{"", " ", "a", "b", "c", "\n", "* * * * *", "one", "\xff", "a,b", strings.Repeat("a", 1<<10)}
	numbers := []int{math.MinInt64, -1, 0, 1, 3, 4, impl.MaxMinute, impl.MaxMinute + 1, math.MaxInt64}
	d := draw(4013)
	text := func() string { return texts[d.below(len(texts))] }
	number := func() int { return numbers[d.below(len(numbers))] }
	rights := 0
	for range 10000 {
		plan := dag(text(), text(), number(), number(), d.below(2) == 0)
		if d.below(2) == 0 {
			plan = dagOf()
		}
		for range d.below(7) {
			one := task(text(), text(), number(), d.below(2) == 0)
			if d.below(2) == 0 {
				one.Pool, one.Retries = "one", 0
			}
			for range d.below(3) * d.below(2) {
				one.After = append(one.After, text())
			}
			plan.Tasks = append(plan.Tasks, one)
		}
		if lookAtOrder(t, plan) {
			rights++
		}
		name := text()
		wantTaskAt(t, plan, name, slices.IndexFunc(plan.Tasks, func(one impl.Task) bool { return one.Name == name }))
	}
	if rights < 50 || rights > 5000 {
		t.Errorf("%d of 10000 are right", rights)
	}
}

// all that is answered of a plan, as new lists
func ordersAnswered(d impl.Dag) [][]int {
	lists := [][]int{impl.OrderOf(d)}
	for i := range len(d.Tasks) + 1 {
		lists = append(lists, impl.UpsOf(d, i), impl.DownsOf(d, i))
	}
	return lists
}

func ordersWanted(d impl.Dag) [][]int {
	lists := make([][]int, 1+2*(len(d.Tasks)+1))
	if !plainDagOk(d) {
		return lists
	}
	lists[0] = plainOrder(d)
	for i := range d.Tasks {
		lists[1+2*i], lists[2+2*i] = plainUps(d, i), plainDowns(d, i)
	}
	return lists
}

func sameLists(a, b [][]int) bool { return slices.EqualFunc(a, b, slices.Equal[[]int]) }

// plans whose lists are looked at for what they share
func sharedPlans() []impl.Dag {
	d := draw(5013)
	// each place is asked for, so that of thousands it would take too long
	plans := slices.DeleteFunc(wrongDags(), func(d impl.Dag) bool { return len(d.Tasks) > 10 })
	plans = append(plans, dagOf(one("a")), dagOf(one("a"), one("b"), one("c"), one("d")), dagOf(one("d", "a", "b", "c"), one("c", "a", "b"), one("b", "a"), one("a")), dagOf(one("z"), one("m", "a", "k", "z"), one("k"), one("a")))
	for range 200 {
		plans = append(plans, drawnDag(&d))
	}
	return plans
}

func TestOrdersAreNotWrittenInto(t *testing.T) {
	for _, from := range sharedPlans() {
		want, height := ordersWanted(from), 0
		if plainDagOk(from) {
			height = plainHeight(from)
		}
		plan, untouched := roomyDag(copyDag(from))
		lists := ordersAnswered(plan)
		if !sameLists(lists, want) || impl.HeightOf(plan) != height || impl.TaskAt(plan, "a") != impl.TaskAt(from, "a") || !untouched() {
			t.Fatalf("of %.300s is answered %v, or something is written into it", tellDag(from), lists)
		}
		// nothing of it is kept, and nothing of what was answered is its
		scribbleDag(plan)
		if !sameLists(lists, want) {
			t.Fatalf("the answers of %.300s have changed: %v", tellDag(from), lists)
		}
		wantNoOrder(t, plan)
		wantTaskAt(t, plan, "a", -1)
		wantHeight(t, from, height)
		if again := ordersAnswered(from); !sameLists(again, want) {
			t.Fatalf("of %.300s is answered %v then", tellDag(from), again)
		}
	}
}

func TestOrdersAreNewMemory(t *testing.T) {
	for _, from := range sharedPlans() {
		want := ordersWanted(from)
		plan, untouched := roomyDag(copyDag(from))
		for written := range want {
			lists, others := ordersAnswered(plan), ordersAnswered(plan)
			scribbleConf(lists[written])
			if !untouched() {
				t.Fatalf("an answer of %.300s shares memory with it", tellDag(from))
			}
			lists[written] = want[written]
			if !sameLists(lists, want) || !sameLists(others, want) || !sameLists(ordersAnswered(plan), want) {
				t.Fatalf("two answers of %.300s share memory", tellDag(from))
			}
			// what is put behind one list is seen in no other
			for _, list := range others {
				_ = append(list, -78)
			}
			if !sameLists(others, want) {
				t.Fatalf("two answers of %.300s share the room behind them", tellDag(from))
			}
		}
	}
}

// what one call answers has no part in what the next one does
func TestOrdersKeepNothing(t *testing.T) {
	long := dagOf(one("d", "c"), one("c", "b"), one("b", "a"), one("a"))
	wide := dagOf(one("a"), one("b"), one("c"), one("d"))
	ring := dagOf(one("a", "b"), one("b", "a"), one("c"))
	for range 3 {
		wantOrder(t, long, 3, 2, 1, 0)
		wantOrder(t, wide, 0, 1, 2, 3)
		wantNoOrder(t, ring)
		wantHeight(t, long, 4)
		wantHeight(t, wide, 1)
		wantDowns(t, long, 3, 0, 1, 2)
		wantDowns(t, wide, 3)
		wantUps(t, long, 2, 3)
		wantUps(t, wide, 2)
		wantNoOrder(t, impl.Dag{})
		wantTaskAt(t, long, "b", 2)
		wantTaskAt(t, wide, "b", 1)
		wantTaskAt(t, impl.Dag{}, "b", -1)
	}
}
