package tests

import (
	"fmt"
	"math"
	"reflect"
	"slices"
	"strings"
	"testing"

	"loop.example/g00188/impl"
)

// a number in bytes by the words of VarText
func plainVar(n int) string {
	var out []byte
	for ; n > 127; n /= 128 {
		out = append(out, byte(n%128+128))
	}
	return string(append(out, byte(n)))
}

// one thing that a text tells, and of what kind it is: a number, the length of a text, its bytes, a flag, or one byte
type piece struct{ kind, text string }

type pieces []piece

func (p *pieces) numbers(list ...int) {
	for _, n := range list {
		*p = append(*p, piece{"number", plainVar(n)})
	}
}

func (p *pieces) short(s string) {
	*p = append(*p, piece{"length", plainVar(len(s))}, piece{"bytes", s})
}

func (p *pieces) flag(is bool) {
	*p = append(*p, piece{"flag", map[bool]string{true: "\x01", false: "\x00"}[is]})
}

func (p *pieces) oneByte(n int) { *p = append(*p, piece{"byte", string([]byte{byte(n)})}) }

func (p pieces) text() string {
	text := ""
	for _, one := range p {
		text += one.text
	}
	return text
}

// the whole text, with something else in one place
func (p pieces) with(at int, text string) string {
	return p[:at].text() + text + p[at+1:].text()
}

// what a board's bytes tell by the chapter's words, whether it is right or not
func boardPieces(b impl.Board) pieces {
	var p pieces
	p.numbers(len(b.Sessions))
	for _, s := range b.Sessions {
		p.numbers(s.Token, s.Last)
		p.short(s.Reply)
	}
	p.numbers(len(b.Plans))
	for _, plan := range b.Plans {
		p.short(plainDagText(plan.Dag))
		p.flag(plan.Paused)
		p.numbers(plan.Cursor, plan.Floor)
	}
	p.numbers(len(b.Runs))
	for _, r := range b.Runs {
		p.short(r.Dag)
		p.numbers(r.Span.From, r.Span.To, r.Epoch)
		for _, s := range r.Tasks {
			p.oneByte(s.Is)
			p.numbers(s.Tries, s.Token, s.Until)
		}
	}
	p.numbers(b.Clock, b.Tokens)
	return p
}

func plainBoardText(b impl.Board) (string, bool) {
	if !plainBoardOk(b) {
		return "", false
	}
	text := boardPieces(b).text()
	if len(text) > 20000 {
		return "", false
	}
	return text, true
}

func commandPieces(x impl.Command) pieces {
	var p pieces
	p.oneByte(x.Op)
	p.numbers(x.Token, x.Seq)
	p.short(x.Text)
	p.short(x.Task)
	p.numbers(x.Num, x.To)
	p.flag(x.Yes)
	return p
}

func plainCommandText(x impl.Command) (string, bool) {
	if !plainCommandOk(x) {
		return "", false
	}
	return commandPieces(x).text(), true
}

// takes one thing after the other from the begin of what is left, and is torn for good where there is none
type plainReader struct {
	rest string
	torn bool
}

func (r *plainReader) take(n int) string {
	if r.torn || n > len(r.rest) {
		r.torn = true
		return ""
	}
	text := r.rest[:n]
	r.rest = r.rest[n:]
	return text
}

func (r *plainReader) oneByte() int {
	text := r.take(1)
	if r.torn {
		return 0
	}
	return int(text[0])
}

// up to the first byte below 128, when that is just the form that VarText gives
func (r *plainReader) number() int {
	for at := 0; at < len(r.rest) && at < 5; at++ {
		if r.rest[at] > 127 {
			continue
		}
		text := r.take(at + 1)
		n := plainNumber(text)
		r.torn = r.torn || n > 1000000000 || plainVar(n) != text
		return n
	}
	r.torn = true
	return 0
}

func (r *plainReader) short() string {
	n := r.number()
	r.torn = r.torn || n > 20000
	return r.take(n)
}

func (r *plainReader) flag() bool {
	n := r.oneByte()
	r.torn = r.torn || n > 1
	return n == 1
}

func plainReadBoard(text string) (impl.Board, bool) {
	r := &plainReader{rest: text, torn: len(text) > 20000}
	var b impl.Board
	for count := r.number(); count > 0 && !r.torn; count-- {
		token, last := r.number(), r.number()
		b.Sessions = append(b.Sessions, session(token, last, r.short()))
	}
	for count := r.number(); count > 0 && !r.torn; count-- {
		words := r.short()
		d, line := plainParseDag(words)
		r.torn = r.torn || line != 0 || plainDagText(d) != words
		p := impl.Plan{Dag: d, Paused: r.flag()}
		p.Cursor = r.number()
		p.Floor = r.number()
		b.Plans = append(b.Plans, p)
	}
	for count := r.number(); count > 0 && !r.torn; count-- {
		run := impl.Run{Dag: r.short()}
		run.Span.From = r.number()
		run.Span.To = r.number()
		run.Epoch = r.number()
		at := plainPlanAt(b, run.Dag)
		if at < 0 {
			return impl.Board{}, false
		}
		for range b.Plans[at].Dag.Tasks {
			is := r.oneByte()
			tries, token := r.number(), r.number()
			run.Tasks = append(run.Tasks, state(is, tries, token, r.number()))
		}
		b.Runs = append(b.Runs, run)
	}
	b.Clock = r.number()
	b.Tokens = r.number()
	if r.torn || r.rest != "" || !plainBoardOk(b) {
		return impl.Board{}, false
	}
	return b, true
}

func plainReadCommand(text string) (impl.Command, bool) {
	r := &plainReader{rest: text}
	x := impl.Command{Op: r.oneByte()}
	x.Token = r.number()
	x.Seq = r.number()
	x.Text = r.short()
	x.Task = r.short()
	x.Num = r.number()
	x.To = r.number()
	x.Yes = r.flag()
	if r.torn || r.rest != "" || !plainCommandOk(x) {
		return impl.Command{}, false
	}
	return x, true
}

func wantBoardText(t *testing.T, b impl.Board, want string, right bool) {
	t.Helper()
	if got, ok := impl.BoardText(b); got != want || ok != right {
		t.Fatalf("BoardText(%s) = %.2000q, %v, want %.2000q, %v", tellBoard(b), got, ok, want, right)
	}
}

func wantReadBoard(t *testing.T, text string, want impl.Board, right bool) {
	t.Helper()
	got, ok := impl.ReadBoard(text)
	if !sameBoard(got, want) || ok != right {
		t.Fatalf("ReadBoard(%.2000q) of %d bytes = %s, %v, want %s, %v", text, len(text), tellBoard(got), ok, tellBoard(want), right)
	}
	if !ok {
		return
	}
	if again, told := impl.BoardText(got); again != text || !told {
		t.Fatalf("BoardText of what %.2000q was read as = %.2000q, %v", text, again, told)
	}
}

func refuseBoardText(t *testing.T, b impl.Board) {
	t.Helper()
	if plainBoardOk(b) {
		t.Fatalf("by hand %s is not right", tellBoard(b))
	}
	wantBoardText(t, b, "", false)
}

// by hand, by the chapter's words done anew, and by the program
func refuseReadBoard(t *testing.T, text string) {
	t.Helper()
	if b, ok := plainReadBoard(text); ok {
		t.Fatalf("by hand %.2000q is no board, and not %s", text, tellBoard(b))
	}
	wantReadBoard(t, text, impl.Board{}, false)
}

// a board in bytes, and back; whether it is right
func lookAtBoardText(t *testing.T, b impl.Board) bool {
	t.Helper()
	want, right := plainBoardText(b)
	wantBoardText(t, b, want, right)
	if right {
		wantReadBoard(t, want, b, true)
	}
	return right
}

// whether the text is a board's
func lookAtReadBoard(t *testing.T, text string) bool {
	t.Helper()
	want, right := plainReadBoard(text)
	wantReadBoard(t, text, want, right)
	return right
}

// by hand, by the chapter's words done anew, and by the program, there and back
func handBoardText(t *testing.T, b impl.Board, want string) {
	t.Helper()
	acceptBoard(t, b)
	if plain, ok := plainBoardText(b); plain != want || !ok {
		t.Fatalf("by hand the text of %s is\n%.3000q, and not\n%.3000q, %v", tellBoard(b), want, plain, ok)
	}
	lookAtBoardText(t, b)
}

func wantCommandText(t *testing.T, x impl.Command, want string, right bool) {
	t.Helper()
	if got, ok := impl.CommandText(x); got != want || ok != right {
		t.Fatalf("CommandText(%.900s) = %.900q, %v, want %.900q, %v", fmt.Sprintf("%+v", x), got, ok, want, right)
	}
}

func wantReadCommand(t *testing.T, text string, want impl.Command, right bool) {
	t.Helper()
	got, ok := impl.ReadCommand(text)
	if got != want || ok != right {
		t.Fatalf("ReadCommand(%.900q) of %d bytes = %.900s, %v, want %.900s, %v", text, len(text), fmt.Sprintf("%+v", got), ok, fmt.Sprintf("%+v", want), right)
	}
	if !ok {
		return
	}
	if again, told := impl.CommandText(got); again != text || !told {
		t.Fatalf("CommandText of what %.900q was read as = %.900q, %v", text, again, told)
	}
}

func refuseReadCommand(t *testing.T, text string) {
	t.Helper()
	if x, ok := plainReadCommand(text); ok {
		t.Fatalf("by hand %.900q is no command, and not %+v", text, x)
	}
	wantReadCommand(t, text, impl.Command{}, false)
}

// a command in bytes, and back; whether it is right
func lookAtCommandText(t *testing.T, x impl.Command) bool {
	t.Helper()
	want, right := plainCommandText(x)
	wantCommandText(t, x, want, right)
	if right {
		wantReadCommand(t, want, x, true)
	}
	return right
}

func lookAtReadCommand(t *testing.T, text string) bool {
	t.Helper()
	want, right := plainReadCommand(text)
	wantReadCommand(t, text, want, right)
	return right
}

// the plan ann in words, behind its length: 83 bytes
const handWords = "\x53dag ann\ncron 0 * * * *\nfrom 0\nto 600\ncatchup\ntask a one 1 free\ntask b two 0 past a\n"

// boards whose bytes are written out by hand
func TestBoardBytes(t *testing.T) {
	ann := handDag()
	bob := dag("bob", "* * * * *", 5, 68374079, false, task("x1", "wide", 3, false))
	const bobWords = "\x45dag bob\ncron * * * * *\nfrom 5\nto 68374079\nlatest\ntask x1 wide 3 free\n"
	handBoardText(t, impl.Board{}, "\x00\x00\x00\x00\x00")
	handBoardText(t, impl.BoardNew(), "\x00\x00\x00\x00\x01")
	handBoardText(t, impl.Board{Clock: 68374079, Tokens: 999999991}, "\x00\x00\x00\xbf\x9c\xcd\x20\xf7\x93\xeb\xdc\x03")
	handBoardText(t, impl.Board{Sessions: []impl.Session{session(3, 7, "plan"), session(5, 0, ""), session(1000000, 1000000, longText(60))}, Clock: 128, Tokens: 127},
		"\x03\x03\x07\x04plan\x05\x00\x00\xc0\x84\x3d\xc0\x84\x3d\x3c"+longText(60)+"\x00\x00\x80\x01\x7f")
	handBoardText(t, boardOf(plansOf(ann)), "\x00\x01"+handWords+"\x00\x00\x00\x00\x64\x32")
	handBoardText(t, impl.Board{Plans: []impl.Plan{{Dag: ann, Paused: true, Cursor: 68374080, Floor: 600}}}, "\x00\x01"+handWords+"\x01\xc0\x9c\xcd\x20\xd8\x04\x00\x00\x00")
	handBoardText(t, impl.Board{Plans: []impl.Plan{{Dag: ann, Cursor: 127, Floor: 128}, {Dag: bob, Paused: true, Cursor: 16383, Floor: 16384}}, Tokens: 1},
		"\x00\x02"+handWords+"\x00\x7f\x80\x01"+bobWords+"\x01\xff\x7f\x80\x80\x01\x00\x00\x01")
	runs := []impl.Run{
		{Dag: "ann", Span: span(0, 60), Epoch: 1000, Tasks: []impl.State{state(2, 2, 0, 0), state(3, 1, 0, 68374179)}},
		{Dag: "ann", Span: span(300, 20000), Tasks: []impl.State{state(1, 0, 300, 105), state(0, 0, 0, 0)}},
		{Dag: "bob", Span: span(68374078, 68374079), Epoch: 127, Tasks: []impl.State{state(1, 4, 1, 0)}},
	}
	handBoardText(t, impl.Board{Sessions: []impl.Session{session(9, 1, "\x00\xff")}, Plans: plansOf(ann, bob), Runs: runs, Clock: 100, Tokens: 300},
		"\x01\x09\x01\x02\x00\xff\x02"+handWords+"\x00\x00\x00"+bobWords+"\x00\x05\x05\x03"+
			"\x03ann\x00\x3c\xe8\x07\x02\x02\x00\x00\x03\x01\x00\xa3\x9d\xcd\x20"+
			"\x03ann\xac\x02\xa0\x9c\x01\x00\x01\x00\xac\x02\x69\x00\x00\x00\x00"+
			"\x03bob\xbe\x9c\xcd\x20\xbf\x9c\xcd\x20\x7f\x01\x04\x01\x00"+
			"\x64\xac\x02")
	// a task that is blocked, and the rule as CronText tells it
	blocked := dag("z", "0,30 1,3 * * 1,2,3,4,5", 0, 0, true, one("a"), one("b", "a"), task("c", "two", 0, true, "a", "b"))
	const words = "\x72dag z\ncron 0,30 1,3 * * 1,2,3,4,5\nfrom 0\nto 0\ncatchup\ntask a one 0 free\ntask b one 0 free a\ntask c two 0 past a,b\n"
	handBoardText(t, impl.Board{Plans: plansOf(blocked), Runs: []impl.Run{{Dag: "z", Span: span(0, 1), Tasks: states(3, 4, 4)}}},
		"\x00\x01"+words+"\x00\x00\x00\x01\x01z\x00\x01\x00\x03\x00\x00\x00\x04\x00\x00\x00\x04\x00\x00\x00\x00\x00")
}

// promise 17: many right boards come back from their bytes
func TestBoardsComeBack(t *testing.T) {
	d := draw(17)
	sessions, plans, runs, kinds := [4]int{}, [3]int{}, [9]int{}, [5]int{}
	seen := map[string]impl.Board{}
	for at := range 5000 {
		b := drawnBoard(&d)
		if at%3 == 0 {
			b = busyBoard(&d)
		}
		text, ok := impl.BoardText(b)
		back, read := impl.ReadBoard(text)
		if !ok || !read || !impl.SameBoard(back, b) || !sameBoard(back, b) {
			t.Fatalf("%s comes back from %.2000q as %s, %v, %v", tellBoard(b), text, tellBoard(back), ok, read)
		}
		if !lookAtBoardText(t, b) {
			t.Fatalf("%s is drawn, and not right", tellBoard(b))
		}
		// one text is one board's
		if other, there := seen[text]; there && !sameBoard(other, b) {
			t.Fatalf("%.2000q is the text of %s and of %s", text, tellBoard(other), tellBoard(b))
		}
		seen[text] = b
		sessions[len(b.Sessions)]++
		plans[len(b.Plans)]++
		runs[len(b.Runs)]++
		for _, r := range b.Runs {
			for _, s := range r.Tasks {
				kinds[s.Is]++
			}
		}
	}
	if slices.Min(sessions[:]) < 500 || slices.Min(plans[:]) < 500 || slices.Min(runs[:]) < 50 || slices.Min(kinds[:]) < 500 {
		t.Errorf("drawn are %v sessions, %v plans, %v runs and %v states", sessions, plans, runs, kinds)
	}
}

// each field of a board at its two ends, with numbers of one byte and of more
func TestBoardFieldsAtTheirEnds(t *testing.T) {
	numbers := func(first, last int) []int {
		list := []int{first, last}
		for _, n := range []int{0, 1, 2, 126, 127, 128, 129, 255, 256, 16382, 16383, 16384, 16385, 2097151, 2097152, 268435455, 268435456, 999999990} {
			if n >= first && n <= last {
				list = append(list, n)
			}
		}
		return list
	}
	// of one board with something in each of its lists, the pieces by their places
	ann := dag("ann", "0 * * * *", 0, 600, true, task("a", "one", 3, false), one("b"))
	base := impl.Board{Sessions: []impl.Session{session(5, 7, "ok")}, Plans: plansOf(ann), Runs: []impl.Run{{Dag: "ann", Span: span(68374078, 68374079), Tasks: states(0, 0)}}, Clock: 9, Tokens: 999999991}
	look := func(place, number int, change func(b *impl.Board)) {
		t.Helper()
		handBoardText(t, changed(base, change), boardPieces(base).with(place, plainVar(number)))
	}
	for _, n := range numbers(1, 1000000) {
		look(1, n, func(b *impl.Board) { b.Sessions[0].Token = n })
		look(2, n, func(b *impl.Board) { b.Sessions[0].Last = n })
	}
	for length := range 61 {
		b := changed(base, func(b *impl.Board) { b.Sessions[0].Reply = longText(length) })
		handBoardText(t, b, boardPieces(base)[:3].text()+string([]byte{byte(length)})+longText(length)+boardPieces(base)[5:].text())
	}
	for _, n := range numbers(0, 68374080) {
		look(9, n, func(b *impl.Board) { b.Plans[0].Cursor = n })
	}
	for _, n := range numbers(0, 68374078) {
		look(10, n, func(b *impl.Board) { b.Plans[0].Floor = n })
		look(14, n, func(b *impl.Board) { b.Runs[0].Span.From = n })
	}
	for _, n := range numbers(1, 68374079) {
		b := changed(base, func(b *impl.Board) { b.Runs[0].Span = span(0, n) })
		handBoardText(t, b, boardPieces(base)[:14].text()+"\x00"+plainVar(n)+boardPieces(base)[16:].text())
	}
	for _, n := range numbers(0, 1000) {
		look(16, n, func(b *impl.Board) { b.Runs[0].Epoch = n })
	}
	for _, is := range []int{0, 2, 3} {
		look(17, is, func(b *impl.Board) { b.Runs[0].Tasks[0].Is = is })
		look(21, is, func(b *impl.Board) { b.Runs[0].Tasks[1].Is = is })
	}
	for tries := range 5 {
		look(18, tries, func(b *impl.Board) { b.Runs[0].Tasks[0].Tries = tries })
		look(22, min(tries, 1), func(b *impl.Board) { b.Runs[0].Tasks[1].Tries = min(tries, 1) })
	}
	for _, n := range numbers(1, 999999991) {
		b := changed(base, func(b *impl.Board) { b.Runs[0].Tasks[0] = state(1, 0, n, 5) })
		handBoardText(t, b, boardPieces(base)[:17].text()+"\x01\x00"+plainVar(n)+"\x05"+boardPieces(base)[21:].text())
	}
	for _, n := range numbers(0, 68374179) {
		look(20, n, func(b *impl.Board) { b.Runs[0].Tasks[0].Until = n })
		look(24, n, func(b *impl.Board) { b.Runs[0].Tasks[1].Until = n })
	}
	for _, n := range numbers(0, 68374079) {
		look(25, n, func(b *impl.Board) { b.Clock = n })
	}
	for _, n := range numbers(0, 999999991) {
		look(26, n, func(b *impl.Board) { b.Tokens = n })
	}
	for _, paused := range []bool{false, true} {
		look(8, map[bool]int{true: 1, false: 0}[paused], func(b *impl.Board) { b.Plans[0].Paused = paused })
	}
	if got := len(boardPieces(base)); got != 27 {
		t.Errorf("the board has %d pieces", got)
	}
}

// the longest text that a right board has: far below MaxText, so that none is too long
func longestBoard() impl.Board {
	var lists [5][]int
	for i, all := range fieldNumbers() {
		lists[i] = slices.Delete(slices.Clone(all), 1, 2)
	}
	var b impl.Board
	for at := range 3 {
		b.Sessions = append(b.Sessions, session(999998+at, 1000000, longText(60)))
	}
	for plan, name := range []string{"zzzzzzz1", "zzzzzzz2"} {
		d := dag(name, plainCronText(cron(lists)), 68374000, 68374079, true)
		names := []string{"aaaaaaa1", "aaaaaaa2", "aaaaaaa3", "aaaaaaa4"}
		for at, name := range names {
			d.Tasks = append(d.Tasks, task(name, "wide", 3, true, names[:at]...))
		}
		b.Plans = append(b.Plans, impl.Plan{Dag: d, Paused: true, Cursor: 68374080, Floor: 68374001})
		for at := range 4 {
			r := impl.Run{Dag: name, Span: span(68374001+at, 68374079), Epoch: 1000}
			for range 4 {
				r.Tasks = append(r.Tasks, state(2, 4, 0, 68374179))
			}
			if at < 2 {
				r.Tasks[3] = state(1, 4, 999999991-2*plan-at, 68374179)
			}
			b.Runs = append(b.Runs, r)
		}
	}
	b.Clock, b.Tokens = 68374079, 999999991
	return b
}

func TestLongestBoard(t *testing.T) {
	b := longestBoard()
	acceptBoard(t, b)
	lookAtBoardText(t, b)
	if text, ok := impl.BoardText(b); len(text) != 1741 || !ok {
		t.Errorf("the longest text has %d bytes, %v", len(text), ok)
	}
	d := draw(1017)
	for range 2000 {
		if text, _ := impl.BoardText(drawnBoard(&d)); len(text) > 1741 {
			t.Fatalf("a text of %d bytes", len(text))
		}
	}
}

// a board for each way in which one is not right
func brokenBoards() []impl.Board {
	wide := dagOf(task("a", "wide", 0, false), task("b", "wide", 0, false), task("c", "wide", 0, false))
	twos := named("bob", dagOf(task("a", "two", 0, false), task("b", "two", 0, false), task("c", "one", 0, false)))
	base := fullBoard()
	list := []impl.Board{
		// more than MaxActive of a plan, and more of a pool than its size
		boardOf(plansOf(wide), hour(wide, 0, 1, 1, 1)),
		boardOf(plansOf(wide), hour(wide, 0, 1, 1, 0), hour(wide, 60, 0, 1, 0)),
		boardOf(plansOf(twos), hour(twos, 0, 0, 0, 1), hour(twos, 60, 0, 0, 1)),
		boardOf(plansOf(named("al", twos), twos), hour(named("al", twos), 0, 1, 0, 0), hour(twos, 0, 1, 1, 0)),
		// more than MaxSessions, MaxPlans and MaxRuns
		{Sessions: []impl.Session{session(1, 0, ""), session(2, 0, ""), session(3, 0, ""), session(4, 0, "")}},
		boardOf(plansOf(wide, twos, named("cid", wide))),
		boardOf(plansOf(wide), hoursOf(wide, 0, 9)...),
		boardOf(plansOf(wide, twos), append(hoursOf(wide, 0, 8), hour(twos, 0, 0, 0, 0))...),
	}
	for _, change := range []func(b *impl.Board){
		func(b *impl.Board) { b.Clock = -1 }, func(b *impl.Board) { b.Clock = 68374080 }, func(b *impl.Board) { b.Clock = math.MaxInt64 },
		func(b *impl.Board) { b.Tokens = -1 }, func(b *impl.Board) { b.Tokens = 1 }, func(b *impl.Board) { b.Tokens = 999999992 }, func(b *impl.Board) { b.Tokens = 1000000000 }, func(b *impl.Board) { b.Tokens = 1000000001 },
		func(b *impl.Board) { b.Sessions[0].Token = 0 }, func(b *impl.Board) { b.Sessions[0].Token = 5 }, func(b *impl.Board) { b.Sessions[0].Token = 6 }, func(b *impl.Board) { b.Sessions[2].Token = 1000001 }, func(b *impl.Board) { b.Sessions[0].Token = -3 },
		func(b *impl.Board) { b.Sessions[0].Last = -1 }, func(b *impl.Board) { b.Sessions[0].Last = 1000001 }, func(b *impl.Board) { b.Sessions[1].Reply = "x" }, func(b *impl.Board) { b.Sessions[0].Last = 0 },
		func(b *impl.Board) { b.Sessions[0].Reply = longText(61) }, func(b *impl.Board) { b.Sessions[0].Reply = longText(128) }, func(b *impl.Board) { b.Sessions[0].Reply = longText(20000) },
		func(b *impl.Board) { slices.Reverse(b.Sessions) }, func(b *impl.Board) { slices.Reverse(b.Plans) }, func(b *impl.Board) { slices.Reverse(b.Runs) },
		func(b *impl.Board) { b.Runs[0], b.Runs[1] = b.Runs[1], b.Runs[0] }, func(b *impl.Board) { b.Runs[1], b.Runs[2] = b.Runs[2], b.Runs[1] },
		func(b *impl.Board) { b.Plans[1].Dag.Name = "ann" }, func(b *impl.Board) { b.Plans[1].Dag.Name = "al" }, func(b *impl.Board) { b.Plans[1].Dag.Name = "" }, func(b *impl.Board) { b.Plans = b.Plans[:1] }, func(b *impl.Board) { b.Plans = nil },
		func(b *impl.Board) { b.Plans[0].Cursor = -1 }, func(b *impl.Board) { b.Plans[0].Cursor = 68374081 }, func(b *impl.Board) { b.Plans[0].Floor = -1 }, func(b *impl.Board) { b.Plans[0].Floor = 1 }, func(b *impl.Board) { b.Plans[1].Floor = 61 }, func(b *impl.Board) { b.Plans[0].Floor = 68374080 },
		func(b *impl.Board) { b.Plans[0].Dag.From = 5 }, func(b *impl.Board) { b.Plans[0].Dag.To = -1 }, func(b *impl.Board) { b.Plans[0].Dag.Cron = "*/30 * * * *" }, func(b *impl.Board) { b.Plans[0].Dag.Tasks = nil },
		func(b *impl.Board) { b.Runs[0].Dag = "al" }, func(b *impl.Board) { b.Runs[0].Dag = "" }, func(b *impl.Board) { b.Runs[0].Dag = "bob" }, func(b *impl.Board) { b.Runs[2].Dag = "zed" },
		func(b *impl.Board) { b.Runs[0].Span = span(-1, 60) }, func(b *impl.Board) { b.Runs[0].Span = span(0, 0) }, func(b *impl.Board) { b.Runs[0].Span = span(60, 70) }, func(b *impl.Board) { b.Runs[2].Span.To = 68374080 },
		func(b *impl.Board) { b.Runs[0].Epoch = -1 }, func(b *impl.Board) { b.Runs[0].Epoch = 1001 },
		func(b *impl.Board) { b.Runs[0].Tasks = b.Runs[0].Tasks[:1] }, func(b *impl.Board) { b.Runs[0].Tasks = states(2, 2, 2) }, func(b *impl.Board) { b.Runs[2].Tasks = nil },
		func(b *impl.Board) { b.Runs[0].Tasks[1].Is = 5 }, func(b *impl.Board) { b.Runs[0].Tasks[1].Is = -1 }, func(b *impl.Board) { b.Runs[0].Tasks[1].Is = 4 }, func(b *impl.Board) { b.Runs[0].Tasks[0].Is = 3 }, func(b *impl.Board) { b.Runs[0].Tasks[0].Is = 0 },
		func(b *impl.Board) { b.Runs[0].Tasks[0].Tries = 3 }, func(b *impl.Board) { b.Runs[0].Tasks[0].Tries = -1 }, func(b *impl.Board) { b.Runs[0].Tasks[0].Token = 1 }, func(b *impl.Board) { b.Runs[1].Tasks[0].Token = 0 },
		func(b *impl.Board) { b.Runs[1].Tasks[0].Token = 51 }, func(b *impl.Board) { b.Runs[1].Tasks[0].Token = 2 }, func(b *impl.Board) { b.Runs[0].Tasks[0].Until = 68374180 }, func(b *impl.Board) { b.Runs[0].Tasks[0].Until = -1 },
	} {
		list = append(list, changed(base, change))
	}
	for _, d := range smallWrongDags() {
		list = append(list, boardOf(plansOf(d)), boardOf(plansOf(named("a", handDag()), d)))
	}
	return list
}

func TestBoardTextOfBrokenBoards(t *testing.T) {
	for _, b := range brokenBoards() {
		refuseBoardText(t, b)
	}
	// what has no byte of its own
	for _, is := range []int{256, 258, 1<<32 + 2, -254, math.MinInt64 + 2} {
		refuseBoardText(t, changed(fullBoard(), func(b *impl.Board) { b.Runs[0].Tasks[1].Is = is }))
	}
	d := draw(2017)
	numbers := []int{math.MinInt64, -1, 0, 1, 2, 3, 4, 5, 8, 9, 60, 1000, 1001, 1000000, 1000001, 68374079, 68374080, 68374081, 68374180, 999999991, 999999992, 1000000000, 1000000001, math.MaxInt64}
	rights := 0
	for range 3000 {
		b := copyBoard(drawnBoard(&d))
		number := numbers[d.below(len(numbers))]
		switch d.below(5) {
		case 0:
			b.Clock, b.Tokens = numbers[d.below(len(numbers))], number
		case 1:
			changeSession(&d, &b, number)
		case 2:
			changePlan(&d, &b, number)
		case 3:
			changeRun(&d, &b, number)
		case 4:
			changeState(&d, &b, number)
		}
		if lookAtBoardText(t, b) {
			rights++
		} else {
			// told whole, as far as it can be told
			lookAtReadBoard(t, boardPieces(b).text())
		}
	}
	if rights < 500 || rights > 2500 {
		t.Errorf("%d of 3000 are right", rights)
	}
}

// boards that are told whole, and are not right
func TestReadBoardOfBrokenBoards(t *testing.T) {
	for _, b := range brokenBoards() {
		refuseReadBoard(t, boardPieces(b).text())
	}
}

// boards whose texts are cut, lengthened and turned
func textBoards() []impl.Board {
	return []impl.Board{{}, impl.BoardNew(), {Sessions: []impl.Session{session(5, 300, "ok")}, Tokens: 7}, boardOf(plansOf(handDag()), hour(handDag(), 0, 1, 0)), fullBoard(), longestBoard(), overBoard(diamond(), true, false, true)}
}

func TestReadBoardCutAnywhere(t *testing.T) {
	refuseReadBoard(t, "")
	for _, b := range textBoards() {
		text, ok := impl.BoardText(b)
		if !ok || !lookAtReadBoard(t, text) {
			t.Fatalf("%s has no text", tellBoard(b))
		}
		for at := range text {
			refuseReadBoard(t, text[:at])
		}
		// without its first bytes
		for at := 1; at < len(text); at++ {
			lookAtReadBoard(t, text[at:])
		}
	}
}

func TestReadBoardBytesBehind(t *testing.T) {
	for _, b := range textBoards() {
		text, _ := impl.BoardText(b)
		for n := range 256 {
			refuseReadBoard(t, text+string([]byte{byte(n)}))
		}
		for _, behind := range []string{"\x00\x00", "\n", " ", "\x80\x00", text, longText(300), strings.Repeat("\x00", 20001)} {
			refuseReadBoard(t, text+behind)
			lookAtReadBoard(t, behind+text)
		}
	}
}

// the places of the counts among the pieces of a board's text
func countPlaces(b impl.Board) [3]int {
	plans := 1 + 4*len(b.Sessions)
	return [3]int{0, plans, plans + 1 + 5*len(b.Plans)}
}

func TestReadBoardCounts(t *testing.T) {
	for _, b := range textBoards() {
		p := boardPieces(b)
		for list, place := range countPlaces(b) {
			count := []int{len(b.Sessions), len(b.Plans), len(b.Runs)}[list]
			if p[place].text != plainVar(count) {
				t.Fatalf("in the place %d of %s stands %q", place, tellBoard(b), p[place].text)
			}
			for _, number := range []int{0, 1, 2, 3, 4, 5, 7, 8, 9, 10, 16, 127, 128, 129, 255, 256, 257, 20000, 1 << 20, 1000000000, 1000000001, 1 << 32} {
				if number == count {
					wantReadBoard(t, p.with(place, plainVar(number)), b, true)
					continue
				}
				// what is lacking is taken from what stands behind, and is nothing there
				if number > count {
					refuseReadBoard(t, p.with(place, plainVar(number)))
				} else {
					lookAtReadBoard(t, p.with(place, plainVar(number)))
				}
			}
		}
	}
	// just as many as are told, and one more than may be
	ann, bob := handDag(), named("bob", handDag())
	for count := range 6 {
		var sessions []impl.Session
		for at := range count {
			sessions = append(sessions, session(at+1, 0, ""))
		}
		if text := boardPieces(impl.Board{Sessions: sessions}).text(); lookAtReadBoard(t, text) != (count <= 3) {
			t.Fatalf("%q is read, or not", text)
		}
		plans := plansOf(ann, bob, named("cid", ann), named("dan", ann), named("eve", ann))[:count]
		if text := boardPieces(impl.Board{Plans: plans}).text(); lookAtReadBoard(t, text) != (count <= 2) {
			t.Fatalf("%q is read, or not", text)
		}
	}
	for count := range 12 {
		if text := boardPieces(boardOf(plansOf(ann, bob), hoursOf(ann, 0, count)...)).text(); lookAtReadBoard(t, text) != (count <= 8) {
			t.Fatalf("%d runs are read, or not", count)
		}
		first := count / 2
		if text := boardPieces(boardOf(plansOf(ann, bob), append(hoursOf(ann, 0, first), hoursOf(bob, 0, count-first)...)...)).text(); lookAtReadBoard(t, text) != (count <= 8) {
			t.Fatalf("%d runs are read, or not", count)
		}
	}
}

// forms of a number that VarText does not give, and numbers beyond MaxNumber
func longerForms(text string) []string {
	last := len(text) - 1
	raised := text[:last] + string([]byte{text[last] + 128})
	list := []string{raised + "\x00", raised + "\x80\x00", raised + "\x80\x80\x00", raised + "\x80\x80\x80\x00", raised + "\x80\x80\x80\x80\x00", raised + "\x80\x80\x80\x80\x80\x80\x80\x80\x00", raised}
	return append(list, "\x81\x94\xeb\xdc\x03", "\xff\xff\xff\xff\x0f", "\xff\xff\xff\xff\xff\xff\xff\xff\x7f", strings.Repeat("\x80", 9)+"\x02", strings.Repeat("\xff", 30))
}

func TestReadBoardLongerNumbers(t *testing.T) {
	for _, b := range textBoards() {
		p := boardPieces(b)
		looked := 0
		for place, one := range p {
			if one.kind != "number" && one.kind != "length" {
				continue
			}
			looked++
			for at, form := range longerForms(one.text) {
				text := p.with(place, form)
				// but for the one that is merely cut all are refused
				if at == 6 {
					lookAtReadBoard(t, text)
				} else {
					refuseReadBoard(t, text)
				}
			}
		}
		if looked < 5 {
			t.Fatalf("%d numbers on %s", looked, tellBoard(b))
		}
	}
}

// each byte in the place of Paused and of Is
func TestReadBoardFlagsAndStates(t *testing.T) {
	flags, kinds := 0, 0
	for _, b := range textBoards() {
		p := boardPieces(b)
		for place, one := range p {
			if one.kind != "flag" && one.kind != "byte" {
				continue
			}
			for n := range 256 {
				// of a board with many of them some are enough
				if len(p) > 100 && n > 8 && n%32 > 2 && n != 255 {
					continue
				}
				text := p.with(place, string([]byte{byte(n)}))
				switch {
				case one.kind == "flag" && n > 1, one.kind == "byte" && n > 4:
					refuseReadBoard(t, text)
				case one.kind == "flag":
					flags++
					want := changed(b, func(b *impl.Board) { b.Plans[(place-countPlaces(*b)[1]-3)/5].Paused = n == 1 })
					wantReadBoard(t, text, want, true)
				case lookAtReadBoard(t, text):
					kinds++
				}
			}
		}
	}
	if flags < 12 || kinds < 40 {
		t.Errorf("%d flags and %d kinds are read", flags, kinds)
	}
}

// what stands in the place of a plan's DagText
func TestReadBoardWordsOfPlans(t *testing.T) {
	base := boardPieces(boardOf(plansOf(handDag()), hour(handDag(), 0, 2, 0)))
	look := func(words string) bool {
		t.Helper()
		text := base[:2].text() + plainVar(len(words)) + words + base[4:].text()
		return lookAtReadBoard(t, text)
	}
	own := textOf(handLines()...)
	if !look(own) || base[3].text != own {
		t.Fatalf("%q is refused, in the place of %q", own, base[3].text)
	}
	// another plan with the same name, and as many tasks, is one all the same
	if !look(textOf("dag ann", "cron * * * * *", "from 0", "to 0", "latest", "task x wide 3 past", "task y wide 0 free")) {
		t.Fatal("another plan is refused")
	}
	var others []string
	// no plans
	for number, line := range []string{"dag Ann", "cron 60 * * * *", "from -1", "to x", "catch", "task a three 1 free", "task b two 0 past c"} {
		others = append(others, handWith(number+1, line))
	}
	for count := range 6 {
		others = append(others, textOf(handLines()[:count]...))
	}
	others = append(others, "", "\n", "#", "\x00", longText(300), longText(801), paddedTo(own, 801), longText(20000))
	// plans in other words than their own
	for _, line := range passedOver() {
		for at := range len(handLines()) + 1 {
			others = append(others, textOf(slices.Insert(handLines(), at, line)...))
		}
	}
	others = append(others, strings.TrimSuffix(own, "\n"), own+"\n", own+" ", " "+own, paddedTo(own, 800), strings.ReplaceAll(own, " ", "  "), strings.ReplaceAll(own, "\n", " \n"),
		handWith(2, "cron 0 0-23 * * *"), handWith(2, "cron 0 */1 * * *"), handWith(2, "cron 0,0 * * * *"), handWith(2, "cron 0-0 * * * *"), handWith(2, "cron */60 * * * *"))
	for _, words := range others {
		if look(words) {
			t.Fatalf("%.900q is read as a plan of its own words", words)
		}
	}
	// After in another order
	after := dag("ann", "0 * * * *", 0, 600, true, one("a"), one("b"), one("c", "a", "b"))
	b := boardOf(plansOf(after), hour(after, 0, 0, 0, 0))
	text, _ := impl.BoardText(b)
	wantReadBoard(t, text, b, true)
	refuseReadBoard(t, strings.Replace(text, "free a,b", "free b,a", 1))
	// a length that is not that of the words
	words := textOf(handLines()...)
	for length := range 200 {
		if length != len(words) {
			refuseReadBoard(t, base.with(2, plainVar(length)))
		}
	}
}

// runs of no plan, and with another number of tasks than their plan has
func TestReadBoardRunsAndTheirPlans(t *testing.T) {
	ann, bob := handDag(), named("bob", diamond())
	wide := func(count int) impl.Run {
		return impl.Run{Dag: "ann", Span: span(0, 60), Tasks: make([]impl.State, count)}
	}
	for count := range 9 {
		b := boardOf(plansOf(ann, bob), wide(count))
		if lookAtReadBoard(t, boardPieces(b).text()) != (count == 2) {
			t.Fatalf("a run with %d tasks is read, or not", count)
		}
		// the tasks behind may be taken for another run, and are not
		b.Runs = append(b.Runs, hour(bob, 0, 0, 0, 0, 0))
		if lookAtReadBoard(t, boardPieces(b).text()) != (count == 2) {
			t.Fatalf("a run with %d tasks ahead of another one is read, or not", count)
		}
	}
	for _, name := range []string{"", "a", "an", "annn", "Ann", "ann ", "bo", "bob0", "zed", "ann\x00", "\xff", longText(200), longText(20000)} {
		for _, tasks := range []int{0, 1, 2, 4} {
			for place := range 3 {
				b := boardOf(plansOf(ann, bob), hour(ann, 0, 0, 0), hour(ann, 60, 0, 0), hour(bob, 0, 0, 0, 0, 0))
				b.Runs[place].Dag, b.Runs[place].Tasks = name, make([]impl.State, tasks)
				refuseReadBoard(t, boardPieces(b).text())
			}
			refuseReadBoard(t, boardPieces(impl.Board{Runs: []impl.Run{{Dag: name, Span: span(0, 60), Tasks: make([]impl.State, tasks)}}}).text())
		}
	}
	// of two plans with one name none is right
	refuseReadBoard(t, boardPieces(boardOf(plansOf(ann, ann), hour(ann, 0, 0, 0))).text())
	refuseReadBoard(t, boardPieces(boardOf(plansOf(ann, named("ann", diamond())), hour(ann, 0, 0, 0))).text())
}

// texts beyond MaxText, of whatever they tell
func TestReadBoardLongTexts(t *testing.T) {
	for _, length := range []int{61, 127, 128, 16384, 19993, 19994, 19995, 20000, 20001, 70000} {
		b := impl.Board{Sessions: []impl.Session{session(1, 1, longText(length))}}
		refuseBoardText(t, b)
		refuseReadBoard(t, boardPieces(b).text())
		d := handDag()
		d.Name = longText(length)
		refuseReadBoard(t, boardPieces(boardOf(plansOf(d), hour(d, 0, 0, 0))).text())
	}
	for _, b := range []impl.Board{{Sessions: make([]impl.Session, 1<<12)}, {Plans: make([]impl.Plan, 1<<8)}, boardOf(plansOf(handDag()), hoursOf(handDag(), 0, 1<<10)...)} {
		text := boardPieces(b).text()
		refuseReadBoard(t, text)
		refuseReadBoard(t, text+strings.Repeat("\x00", 30000))
		refuseBoardText(t, b)
	}
	// many, of which each may be nothing at all
	for _, one := range []string{"\x00", "\x01", "\x7f", "\x80", "\xff", "\x00\x00\x00\x01", "\xff\xff\xff\x7f"} {
		for _, head := range []string{"", "\x80\x94\xeb\xdc\x03", "\x00\x80\x94\xeb\xdc\x03", "\x00\x00\x80\x94\xeb\xdc\x03", "\x03", "\x00\x02", "\x00\x01" + handWords + "\x00\x00\x00\x08"} {
			for _, length := range []int{1, 100, 19999, 20000, 20001, 1 << 20} {
				text := (head + strings.Repeat(one, length/len(one)+1))[:length+len(head)]
				lookAtReadBoard(t, text)
				if length > 100 {
					refuseReadBoard(t, text)
				}
			}
		}
	}
}

// a right text with a byte turned, left out, put in, or a stretch of another text
func torn(d *draw, text, other string) string {
	if text == "" {
		return other
	}
	at, end := d.below(len(text)), d.below(len(text))
	switch d.below(5) {
	case 0:
		return text[:at] + string([]byte{text[at] ^ byte(1<<d.below(8))}) + text[at+1:]
	case 1:
		return text[:at] + text[at+1:]
	case 2:
		return text[:at] + string([]byte{[]byte{0, 1, 2, 127, 128, 255, byte(d.below(256))}[d.below(7)]}) + text[at:]
	case 3:
		return text[:min(at, end)] + text[max(at, end):]
	}
	return text[:at] + other[min(end, len(other)):]
}

// promise 17: bytes that are read as a board are just the bytes that would be written of it
func TestDrawnBoardTexts(t *testing.T) {
	d := draw(3017)
	rights := 0
	for range 6000 {
		first, _ := plainBoardText(drawnBoard(&d))
		second, _ := plainBoardText(drawnBoard(&d))
		text := torn(&d, first, second)
		for range d.below(3) {
			text = torn(&d, text, first)
		}
		if lookAtReadBoard(t, text) {
			rights++
		}
	}
	// each byte of some texts turned
	for _, b := range textBoards() {
		text, _ := plainBoardText(b)
		for at := range text {
			for _, turn := range []byte{1, 0x80} {
				if lookAtReadBoard(t, text[:at]+string([]byte{text[at] ^ turn})+text[at+1:]) {
					rights++
				}
			}
		}
	}
	if rights < 300 {
		t.Errorf("%d texts are read", rights)
	}
}

// commands whose bytes are written out by hand
func TestCommandBytes(t *testing.T) {
	for _, known := range []struct {
		x    impl.Command
		text string
	}{
		{impl.Command{Op: 1}, "\x01\x00\x00\x00\x00\x00\x00\x00"},
		{impl.Command{Op: 2}, "\x02\x00\x00\x00\x00\x00\x00\x00"},
		{impl.Command{Op: 2, Token: 5, Seq: 2, Text: "dag"}, "\x02\x05\x02\x03dag\x00\x00\x00\x00"},
		{impl.Command{Op: 2, Token: 127, Seq: 128, Text: longText(600)}, "\x02\x7f\x80\x01\xd8\x04" + longText(600) + "\x00\x00\x00\x00"},
		{impl.Command{Op: 3, Token: 5, Seq: 2, Text: "ann", Yes: true}, "\x03\x05\x02\x03ann\x00\x00\x00\x01"},
		{impl.Command{Op: 3, Token: 5, Seq: 2, Text: "abcdefgh"}, "\x03\x05\x02\x08abcdefgh\x00\x00\x00\x00"},
		{impl.Command{Op: 4, Token: 5, Seq: 2, Num: 300}, "\x04\x05\x02\x00\x00\xac\x02\x00\x00"},
		{impl.Command{Op: 4, Token: 5, Seq: 2, Num: 68374079}, "\x04\x05\x02\x00\x00\xbf\x9c\xcd\x20\x00\x00"},
		{impl.Command{Op: 5, Token: 1000000, Seq: 1000000}, "\x05\xc0\x84\x3d\xc0\x84\x3d\x00\x00\x00\x00\x00"},
		{impl.Command{Op: 6, Token: 1, Seq: 2, Num: 3}, "\x06\x01\x02\x00\x00\x03\x00\x00"},
		{impl.Command{Op: 6, Token: 1, Seq: 2, Num: 1000000000}, "\x06\x01\x02\x00\x00\x80\x94\xeb\xdc\x03\x00\x00"},
		{impl.Command{Op: 7, Token: 1, Seq: 2, Num: 3, Yes: true}, "\x07\x01\x02\x00\x00\x03\x00\x01"},
		{impl.Command{Op: 7, Token: 1, Seq: 2, Num: 3}, "\x07\x01\x02\x00\x00\x03\x00\x00"},
		{impl.Command{Op: 8, Token: 5, Seq: 2, Text: "ann", Num: 60, To: 600}, "\x08\x05\x02\x03ann\x00\x3c\xd8\x04\x00"},
		{impl.Command{Op: 8, Token: 5, Seq: 2, Text: "ann", Num: 68374079, To: 68374079}, "\x08\x05\x02\x03ann\x00\xbf\x9c\xcd\x20\xbf\x9c\xcd\x20\x00"},
		{impl.Command{Op: 9, Token: 5, Seq: 2, Text: "ann", Num: 60, Task: "x1"}, "\x09\x05\x02\x03ann\x02x1\x3c\x00\x00"},
	} {
		if text, ok := plainCommandText(known.x); text != known.text || !ok || commandData(known.x) != text {
			t.Fatalf("by hand the text of %+v is %q, and not %q, %v", known.x, known.text, text, ok)
		}
		lookAtCommandText(t, known.x)
	}
}

// promise 17: many right commands of each Op come back from their bytes
func TestCommandsComeBack(t *testing.T) {
	d := draw(4017)
	counts := [10]int{}
	for range 4000 {
		x := drawnCommand(&d, busyBoard(&d))
		text, ok := impl.CommandText(x)
		back, read := impl.ReadCommand(text)
		if !ok || !read || back != x {
			t.Fatalf("%+v comes back from %.900q as %+v, %v, %v", x, text, back, ok, read)
		}
		if !lookAtCommandText(t, x) {
			t.Fatalf("%+v is drawn, and not right", x)
		}
		counts[x.Op]++
	}
	if slices.Min(counts[1:]) < 200 {
		t.Errorf("the Ops come %v times", counts)
	}
}

// each field of each Op at its ends, one past them, and far off
func TestCommandFieldsAtTheirEnds(t *testing.T) {
	numbers := append(commandNumbers(), 126, 127, 128, 129, 255, 256, 16383, 16384, 2097151, 2097152, 268435455, 268435456)
	texts := []string{"", "a", "z9999999", "abcdefgh", "abcdefghi", "A", "1a", "a b", "\x00", "\xff", longText(127), longText(128), longText(599), longText(600), longText(601), longText(602), longText(16384), longText(20000), longText(20001), strings.Repeat("a", 70000)}
	rights := [10]int{}
	for _, x := range rightCommands() {
		look := func(change func(x *impl.Command)) {
			t.Helper()
			other := x
			change(&other)
			right := lookAtCommandText(t, other)
			if right {
				rights[x.Op]++
			}
			// told whole, it is read only if it is right
			whole := other.Token >= 0 && other.Seq >= 0 && other.Num >= 0 && other.To >= 0 && other.Op >= 0 && other.Op < 256
			if text := commandPieces(other).text(); whole && lookAtReadCommand(t, text) != right {
				t.Fatalf("%.900q is read, or not", text)
			}
		}
		for _, n := range numbers {
			look(func(x *impl.Command) { x.Token = n })
			look(func(x *impl.Command) { x.Seq = n })
			look(func(x *impl.Command) { x.Num = n })
			look(func(x *impl.Command) { x.To = n })
			look(func(x *impl.Command) { x.Op = n })
		}
		for _, s := range texts {
			look(func(x *impl.Command) { x.Text = s })
			look(func(x *impl.Command) { x.Task = s })
		}
		for _, yes := range []bool{false, true} {
			look(func(x *impl.Command) { x.Yes = yes })
		}
		for op := range 256 {
			look(func(x *impl.Command) { x.Op = op })
			look(func(x *impl.Command) { *x = impl.Command{Op: op} })
		}
	}
	if slices.Min(rights[1:]) < 8 {
		t.Errorf("of each Op %v are right", rights)
	}
	// of OpSubmit just 600 bytes and no more
	for length, want := range map[int]bool{599: true, 600: true, 601: false, 856: false} {
		x := impl.Command{Op: 2, Token: 1, Seq: 1, Text: strings.Repeat("x", length)}
		if lookAtCommandText(t, x) != want || lookAtReadCommand(t, commandPieces(x).text()) != want {
			t.Errorf("a Text of %d bytes is told and read, or not", length)
		}
	}
}

func TestReadCommandCutAnywhere(t *testing.T) {
	refuseReadCommand(t, "")
	for _, x := range append(rightCommands(), impl.Command{Op: 2, Token: 1000000, Seq: 999999, Text: longText(600)}) {
		text, _ := impl.CommandText(x)
		wantReadCommand(t, text, x, true)
		for at := range text {
			refuseReadCommand(t, text[:at])
			lookAtReadCommand(t, text[at+1:])
		}
		for n := range 256 {
			refuseReadCommand(t, text+string([]byte{byte(n)}))
			lookAtReadCommand(t, string([]byte{byte(n)})+text)
		}
		for _, behind := range []string{"\x00\x00", "\n", text, longText(640), longText(20001)} {
			refuseReadCommand(t, text+behind)
		}
	}
}

func TestReadCommandForms(t *testing.T) {
	for _, x := range rightCommands() {
		p := commandPieces(x)
		for place, one := range p {
			switch one.kind {
			case "number", "length":
				for at, form := range longerForms(one.text) {
					if at == 6 {
						lookAtReadCommand(t, p.with(place, form))
					} else {
						refuseReadCommand(t, p.with(place, form))
					}
				}
			case "flag":
				for n := range 256 {
					text := p.with(place, string([]byte{byte(n)}))
					if read := lookAtReadCommand(t, text); n > 1 && read || n == 1 && read != (x.Op == 3 || x.Op == 7) || n == 0 && !read {
						t.Fatalf("%.900q is read, or not", text)
					}
				}
			}
		}
	}
	// great lengths
	for _, head := range []string{"\x02\x05\x02", "\x09\x05\x02\x03ann"} {
		for _, length := range []int{600, 601, 640, 20000, 20001, 1000000000} {
			lookAtReadCommand(t, head+plainVar(length)+strings.Repeat("a", min(length, 30000))+"\x00\x00\x00\x00")
		}
	}
}

// promise 17: bytes that are read as a command are just the bytes that would be written of it
func TestDrawnCommandTexts(t *testing.T) {
	d := draw(5017)
	empty := impl.Board{}
	rights := 0
	for range 30000 {
		first, _ := plainCommandText(drawnCommand(&d, empty))
		second, _ := plainCommandText(drawnCommand(&d, empty))
		text := torn(&d, first, second)
		for range d.below(3) {
			text = torn(&d, text, first)
		}
		if lookAtReadCommand(t, text) {
			rights++
		}
	}
	// each text of few bytes
	for _, head := range []string{"\x01", "\x04\x05\x02", "\x07\x05\x02\x00\x00", "\x03\x05\x02\x01a"} {
		for n := range 256 {
			for m := range 256 {
				if lookAtReadCommand(t, head+string([]byte{byte(n), byte(m), 0, 0, 0})) || lookAtReadCommand(t, head+string([]byte{0, 0, 0, 0, 0, byte(n), byte(m)})) {
					rights++
				}
			}
		}
	}
	if rights < 1000 {
		t.Errorf("%d texts are read", rights)
	}
}

func wantSame(t *testing.T, a, b impl.Board, want bool) {
	t.Helper()
	if sameBoard(a, b) != want {
		t.Fatalf("by hand %s and %s are the same: %v", tellBoard(a), tellBoard(b), want)
	}
	if impl.SameBoard(a, b) != want || impl.SameBoard(b, a) != want {
		t.Fatalf("SameBoard(%s, %s) = %v, %v the other way round", tellBoard(a), tellBoard(b), impl.SameBoard(a, b), impl.SameBoard(b, a))
	}
}

// every board that differs from this one in one field of one of its structs alone, or in how long one of its lists is
func otherBoards(b impl.Board) []impl.Board {
	var list []impl.Board
	for {
		other := copyBoard(b)
		left := len(list)
		if !changeOne(reflect.ValueOf(&other).Elem(), &left) {
			return list
		}
		list = append(list, other)
	}
}

// makes the change whose number is left, of those that there are; else takes off how many there are
func changeOne(v reflect.Value, left *int) bool {
	mine := func() bool {
		*left--
		return *left < 0
	}
	switch v.Kind() {
	case reflect.Int:
		if mine() {
			v.SetInt(v.Int() ^ 1)
			return true
		}
	case reflect.Bool:
		if mine() {
			v.SetBool(!v.Bool())
			return true
		}
	case reflect.String:
		if mine() {
			v.SetString(v.String() + "x")
			return true
		}
	case reflect.Struct:
		for at := range v.NumField() {
			if changeOne(v.Field(at), left) {
				return true
			}
		}
	case reflect.Slice:
		if mine() {
			v.Set(reflect.Append(v, reflect.Zero(v.Type().Elem())))
			return true
		}
		if v.Len() > 0 && mine() {
			v.Set(v.Slice(0, v.Len()-1))
			return true
		}
		for at := range v.Len() {
			if changeOne(v.Index(at), left) {
				return true
			}
		}
	}
	return false
}

func TestSameBoard(t *testing.T) {
	d := draw(6017)
	boards := append(sharedBoards()[:30], longestBoard(), boardOf(plansOf(dagOf(one("a"), one("b"), one("c", "a", "b"))), hour(dagOf(one("a"), one("b"), one("c")), 0, 2, 2, 1)))
	for range 20 {
		boards = append(boards, strangeBoard(&d))
	}
	looked := 0
	for _, b := range boards {
		wantSame(t, b, b, true)
		wantSame(t, b, cloneTexts(b), true)
		others := otherBoards(b)
		for at, other := range others {
			wantSame(t, b, other, false)
			wantSame(t, other, copyBoard(other), true)
			if next := others[(at+1)%len(others)]; !sameBoard(other, next) {
				wantSame(t, other, next, false)
			}
			looked++
		}
	}
	if looked < 3000 {
		t.Errorf("%d others", looked)
	}
	if count := len(otherBoards(fullBoard())); count < 120 {
		t.Errorf("%d others of a board with all", count)
	}
}

// numbers that are alike in some of their bits, and texts that begin alike
func TestSameBoardFarOff(t *testing.T) {
	numbers := []int{math.MinInt64, math.MinInt64 + 5, -5, 0, 5, 5 + 1<<8, 5 + 1<<16, 5 + 1<<32, math.MaxInt64}
	texts := []string{"", "a", "b", "aa", "ab", "a\x00", "\xff", "A", longText(300), longText(301)}
	changes := []func(b *impl.Board, n int, s string){
		func(b *impl.Board, n int, s string) { b.Clock = n }, func(b *impl.Board, n int, s string) { b.Tokens = n },
		func(b *impl.Board, n int, s string) { b.Sessions[1].Token = n }, func(b *impl.Board, n int, s string) { b.Sessions[2].Last = n }, func(b *impl.Board, n int, s string) { b.Sessions[0].Reply = s },
		func(b *impl.Board, n int, s string) { b.Plans[1].Cursor = n }, func(b *impl.Board, n int, s string) { b.Plans[0].Floor = n }, func(b *impl.Board, n int, s string) { b.Plans[1].Dag.Name = s }, func(b *impl.Board, n int, s string) { b.Plans[0].Dag.Cron = s },
		func(b *impl.Board, n int, s string) { b.Plans[0].Dag.From = n }, func(b *impl.Board, n int, s string) { b.Plans[1].Dag.To = n }, func(b *impl.Board, n int, s string) { b.Plans[1].Dag.Tasks[3].Name = s }, func(b *impl.Board, n int, s string) { b.Plans[1].Dag.Tasks[2].Pool = s },
		func(b *impl.Board, n int, s string) { b.Plans[1].Dag.Tasks[3].Retries = n }, func(b *impl.Board, n int, s string) { b.Plans[1].Dag.Tasks[3].After[1] = s },
		func(b *impl.Board, n int, s string) { b.Runs[2].Dag = s }, func(b *impl.Board, n int, s string) { b.Runs[0].Span.From = n }, func(b *impl.Board, n int, s string) { b.Runs[1].Span.To = n }, func(b *impl.Board, n int, s string) { b.Runs[2].Epoch = n },
		func(b *impl.Board, n int, s string) { b.Runs[2].Tasks[3].Is = n }, func(b *impl.Board, n int, s string) { b.Runs[2].Tasks[0].Tries = n }, func(b *impl.Board, n int, s string) { b.Runs[1].Tasks[1].Token = n }, func(b *impl.Board, n int, s string) { b.Runs[0].Tasks[0].Until = n },
	}
	for _, change := range changes {
		for at, n := range numbers {
			for other, m := range numbers {
				a := changed(fullBoard(), func(b *impl.Board) { change(b, n, texts[at]) })
				b := changed(fullBoard(), func(b *impl.Board) { change(b, m, texts[other]) })
				wantSame(t, a, b, at == other)
			}
		}
	}
}

// the order of a list counts, and an empty one is nil
func TestSameBoardLists(t *testing.T) {
	base := fullBoard()
	for _, change := range []func(b *impl.Board){
		func(b *impl.Board) { slices.Reverse(b.Sessions) }, func(b *impl.Board) { slices.Reverse(b.Plans) }, func(b *impl.Board) { slices.Reverse(b.Runs) },
		func(b *impl.Board) { b.Sessions[0], b.Sessions[1] = b.Sessions[1], b.Sessions[0] }, func(b *impl.Board) { slices.Reverse(b.Runs[2].Tasks) }, func(b *impl.Board) { slices.Reverse(b.Plans[1].Dag.Tasks) }, func(b *impl.Board) { slices.Reverse(b.Plans[1].Dag.Tasks[3].After) },
		func(b *impl.Board) { b.Sessions = nil }, func(b *impl.Board) { b.Plans = nil }, func(b *impl.Board) { b.Runs = nil }, func(b *impl.Board) { b.Runs[0].Tasks = nil }, func(b *impl.Board) { b.Plans[1].Dag.Tasks[3].After = nil }, func(b *impl.Board) { b.Plans[0].Dag.Tasks = nil },
		func(b *impl.Board) { b.Sessions = b.Sessions[1:] }, func(b *impl.Board) { b.Plans = b.Plans[1:] }, func(b *impl.Board) { b.Runs = b.Runs[1:] },
		func(b *impl.Board) { b.Sessions = append(b.Sessions, b.Sessions[2]) }, func(b *impl.Board) { b.Plans = append(b.Plans, b.Plans[1]) }, func(b *impl.Board) { b.Runs = append(b.Runs, b.Runs[2]) },
	} {
		wantSame(t, base, changed(base, change), false)
		wantSame(t, impl.Board{}, changed(base, change), false)
		wantSame(t, changed(base, change), changed(base, change), true)
	}
	wantSame(t, impl.Board{}, impl.BoardNew(), false)
	wantSame(t, impl.Board{}, impl.Board{Sessions: []impl.Session{}, Plans: []impl.Plan{}, Runs: []impl.Run{}}, true)
	wantSame(t, impl.Board{}, impl.Board{Sessions: make([]impl.Session, 1)}, false)
	wantSame(t, impl.Board{}, impl.Board{Plans: make([]impl.Plan, 1)}, false)
	wantSame(t, impl.Board{}, impl.Board{Runs: make([]impl.Run, 1)}, false)
	empty := impl.Board{Plans: []impl.Plan{{Dag: impl.Dag{Tasks: []impl.Task{}}}, {Dag: impl.Dag{Tasks: []impl.Task{{After: []string{}}}}}}, Runs: []impl.Run{{Tasks: []impl.State{}}}}
	without := impl.Board{Plans: []impl.Plan{{}, {Dag: impl.Dag{Tasks: []impl.Task{{}}}}}, Runs: []impl.Run{{}}}
	wantSame(t, empty, without, true)
	// many of each
	great := impl.Board{Sessions: make([]impl.Session, 1<<14), Plans: make([]impl.Plan, 1<<14), Runs: make([]impl.Run, 1<<14)}
	wantSame(t, great, copyBoard(great), true)
	wantSame(t, great, changed(great, func(b *impl.Board) { b.Runs[1<<14-1].Epoch = 1 }), false)
	wantSame(t, great, changed(great, func(b *impl.Board) { b.Plans[1<<14-1].Paused = true }), false)
	wantSame(t, great, changed(great, func(b *impl.Board) { b.Sessions[1<<14-1].Last = 1 }), false)
}

// boards that are drawn, right and not, each with each of some
func TestDrawnSameBoards(t *testing.T) {
	d := draw(7017)
	var boards []impl.Board
	for range 40 {
		boards = append(boards, drawnBoard(&d), busyBoard(&d), strangeBoard(&d))
	}
	for range 5 {
		boards = append(boards, impl.Board{}, impl.BoardNew())
	}
	for _, a := range boards {
		for _, b := range boards {
			wantSame(t, a, b, sameBoard(a, b))
			first, right := impl.BoardText(a)
			second, also := impl.BoardText(b)
			if right && also && (first == second) != impl.SameBoard(a, b) {
				t.Fatalf("%s and %s have one text, or are the same", tellBoard(a), tellBoard(b))
			}
		}
	}
}

// the life by hand, as entries: what is told of each, and the board behind them
func TestFoldOfALife(t *testing.T) {
	var list []impl.Entry
	var want []string
	step := impl.BoardNew()
	for at, asked := range lifeSteps() {
		text, ok := impl.CommandText(asked.x)
		if !ok {
			t.Fatalf("%+v has no text", asked.x)
		}
		list, want = append(list, command(1+at/7, text)), append(want, asked.reply)
		step, _, _ = impl.Perform(step, at+1, asked.x)
	}
	wantFold(t, impl.BoardNew(), list, 1, step, want...)
	// parted in two anywhere
	for at := range list {
		first, said := impl.Fold(impl.BoardNew(), list[:at], 1)
		if !slices.Equal(said, want[:at]) {
			t.Fatalf("the first %d are replied %q", at, said)
		}
		wantFold(t, first, list[at:], 1+at, step, want[at:]...)
		// and so it is behind a snapshot
		text, _ := impl.BoardText(first)
		back, ok := impl.ReadBoard(text)
		if !ok || !impl.SameBoard(back, first) {
			t.Fatalf("%s comes back as %s, %v", tellBoard(first), tellBoard(back), ok)
		}
		wantFold(t, back, list[at:], 1+at, step, want[at:]...)
	}
	// all of them once more, from another index on: the sessions are others then
	again, said := impl.Fold(step, list, 1000)
	if said[0] != "open 1000" || said[1] != "open 1001" || said[2] != "none" || !impl.BoardOk(again) {
		t.Errorf("once more %q is replied, on %s", said, tellBoard(again))
	}
}

// entries of each kind among commands that follow one another
func TestFoldOfKinds(t *testing.T) {
	open := "\x01\x00\x00\x00\x00\x00\x00\x00"
	take := func(token, seq int) string {
		return string([]byte{5, byte(token), byte(seq), 0, 0, 0, 0, 0})
	}
	list := []impl.Entry{none(1), command(1, open), conf(1, "\x01\x02"), command(1, take(4, 1)), {Term: 2, Kind: 1, Data: open}, {Term: 2, Kind: 2, Data: open}, command(2, "what"), command(2, take(4, 1)), command(2, take(4, 2)), {Kind: 4, Data: take(4, 3)}, {Data: open}, command(2, take(4, 4)), command(2, open), command(3, take(15, 1)), command(3, "")}
	want := impl.Board{Sessions: []impl.Session{session(4, 2, "idle"), session(15, 1, "idle")}}
	wantFold(t, impl.Board{}, list, 3, want, "", "open 4", "", "idle", "", "", "", "idle", "idle", "", "", "gap", "open 15", "idle", "")
	// the same with nothing between
	wantFold(t, impl.Board{}, []impl.Entry{list[1], list[3], list[8]}, 4, impl.Board{Sessions: []impl.Session{session(4, 2, "idle")}}, "open 4", "idle", "idle")
	// a board that is not right stays as it is, and nothing is told
	wrong := impl.Board{Clock: -1}
	wantFold(t, wrong, list, 3, wrong, slices.Repeat([]string{""}, len(list))...)
	// each Op, by its own bytes
	b := askedBoard(session(5, 1, "ok"))
	for reply, x := range askedWork() {
		x.Token, x.Seq = 5, 2
		text, _ := impl.CommandText(x)
		next, told, _ := impl.Perform(b, 9, x)
		if told != reply {
			t.Fatalf("%+v is replied %q", x, told)
		}
		wantFold(t, b, []impl.Entry{command(1, text), none(1), command(1, text)}, 9, next, reply, "", reply)
		wantFold(t, b, []impl.Entry{none(1), command(1, text[:len(text)-1]), command(1, text+"\x00")}, 9, b, "", "", "")
	}
}

// each entry at its index, from 1 to 400000; what is beyond is not done
func TestFoldIndexes(t *testing.T) {
	open := command(1, "\x01\x00\x00\x00\x00\x00\x00\x00")
	list := []impl.Entry{open, none(1), open, open}
	for _, known := range []struct {
		index   int
		tokens  []int
		replies []string
	}{
		{math.MinInt64, nil, []string{"", "", "", ""}}, {math.MinInt64 + 3, nil, []string{"", "", "", ""}}, {-400000, nil, []string{"", "", "", ""}}, {-4, nil, []string{"", "", "", ""}}, {-3, nil, []string{"", "", "", ""}},
		{-2, []int{1}, []string{"", "", "", "open 1"}}, {-1, []int{1, 2}, []string{"", "", "open 1", "open 2"}}, {0, []int{2, 3}, []string{"", "", "open 2", "open 3"}},
		{1, []int{1, 3, 4}, []string{"open 1", "", "open 3", "open 4"}}, {399997, []int{399997, 399999, 400000}, []string{"open 399997", "", "open 399999", "open 400000"}},
		{399998, []int{399998, 400000}, []string{"open 399998", "", "open 400000", ""}}, {399999, []int{399999}, []string{"open 399999", "", "", ""}}, {400000, []int{400000}, []string{"open 400000", "", "", ""}},
		{400001, nil, []string{"", "", "", ""}}, {1000000, nil, []string{"", "", "", ""}}, {1 << 32, nil, []string{"", "", "", ""}}, {math.MaxInt64 - 3, nil, []string{"", "", "", ""}}, {math.MaxInt64 - 1, nil, []string{"", "", "", ""}}, {math.MaxInt64, nil, []string{"", "", "", ""}},
	} {
		var sessions []impl.Session
		for _, token := range known.tokens {
			sessions = append(sessions, session(token, 0, ""))
		}
		wantFold(t, impl.BoardNew(), list, known.index, impl.Board{Sessions: sessions, Tokens: 1}, known.replies...)
	}
}

// boards and texts of any fields
func TestStrangeBoardTexts(t *testing.T) {
	d := draw(8017)
	for range 4000 {
		b := strangeBoard(&d)
		if !lookAtBoardText(t, b) {
			lookAtReadBoard(t, boardPieces(b).text())
		}
	}
	for range 20000 {
		bytes := make([]byte, d.below(40))
		for at := range bytes {
			bytes[at] = []byte{0, 0, 0, 1, 1, 2, 3, 5, 8, 127, 128, 255, byte(d.below(256))}[d.below(13)]
		}
		lookAtReadBoard(t, string(bytes))
		lookAtReadCommand(t, string(bytes))
	}
	for range 20000 {
		x := impl.Command{Op: []int{d.below(11), strangeNumber(&d)}[d.below(2)], Token: strangeNumber(&d), Seq: strangeNumber(&d), Text: strangeText(&d), Task: strangeText(&d), Num: strangeNumber(&d), To: strangeNumber(&d), Yes: d.below(2) == 0}
		lookAtCommandText(t, x)
		lookAtReadCommand(t, commandPieces(x).text())
	}
}

func TestBoardTextsWriteIntoNothing(t *testing.T) {
	for _, from := range append(sharedBoards()[:60], brokenBoards()...) {
		want, right := plainBoardText(from)
		b, untouched := roomyBoard(from)
		wantBoardText(t, b, want, right)
		if !impl.SameBoard(b, from) || !impl.SameBoard(from, b) || !untouched() {
			t.Fatalf("something is written into %s", tellBoard(from))
		}
		// nothing of the board is kept
		scribbleBoard(b)
		wantBoardText(t, from, want, right)
	}
}

func TestBoardsReadAreNewMemory(t *testing.T) {
	for _, from := range append(sharedBoards()[:80], longestBoard()) {
		text, ok := plainBoardText(from)
		if !ok {
			continue
		}
		first, _ := impl.ReadBoard(text)
		second, _ := impl.ReadBoard(text)
		old := append(textsOn(second), text)
		for _, s := range textsOn(first) {
			if slices.ContainsFunc(old, func(other string) bool { return sharesBytes(s, other) }) {
				t.Fatalf("%q of what is read of %.2000q has bytes of it, or of another answer", s, text)
			}
		}
		lookAtLists(t, first, from, "ReadBoard")
		scribbleBoard(first)
		if !sameBoard(second, from) {
			t.Fatalf("what is read of %.2000q shares memory with another answer", text)
		}
		wantReadBoard(t, text, from, true)
		// nor is a text that was written another's
		written, _ := impl.BoardText(from)
		again, _ := impl.BoardText(from)
		for _, s := range append(textsOn(from), again, text) {
			if sharesBytes(written, s) {
				t.Fatalf("the text of %s has bytes of it, or of another answer", tellBoard(from))
			}
		}
	}
}

func TestCommandsReadAreNewMemory(t *testing.T) {
	for _, x := range rightCommands() {
		x.Text, x.Task = strings.Clone(x.Text), strings.Clone(x.Task)
		written, _ := impl.CommandText(x)
		again, _ := impl.CommandText(x)
		first, _ := impl.ReadCommand(written)
		second, _ := impl.ReadCommand(written)
		for _, s := range []string{first.Text, first.Task} {
			for _, other := range []string{second.Text, second.Task, written} {
				if sharesBytes(s, other) {
					t.Fatalf("%q of what is read of %q has bytes of it, or of another answer", s, written)
				}
			}
		}
		if sharesBytes(first.Text, first.Task) || sharesBytes(written, again) || sharesBytes(written, x.Text) || sharesBytes(written, x.Task) {
			t.Fatalf("two texts of %+v share bytes", x)
		}
	}
	// nor are the words of a plan that is folded those of its entry
	text := plainDagText(named("cid", diamond()))
	data, _ := impl.CommandText(impl.Command{Op: 2, Token: 5, Seq: 1, Text: text})
	list := []impl.Entry{command(1, data)}
	next, said := impl.Fold(impl.Board{Sessions: []impl.Session{session(5, 0, "")}}, list, 9)
	if slices.ContainsFunc(append(textsOn(next), said...), func(s string) bool { return sharesBytes(s, data) }) || len(next.Plans) != 1 {
		t.Errorf("Fold answers %s, %q, with bytes of its entry", tellBoard(next), said)
	}
}

// what one call answers has no part in what the next one does, in whichever order they come
func TestTextsKeepNothing(t *testing.T) {
	boards := append(sharedBoards()[:20], brokenBoards()[:20]...)
	commands := append(rightCommands(), impl.Command{}, impl.Command{Op: 5, Num: 1})
	for round := range 3 {
		for at := range boards {
			at = (at*7 + round*3) % len(boards)
			text := boardPieces(boards[at]).text()
			x := commands[(at+round)%len(commands)]
			lookAtReadBoard(t, text)
			lookAtCommandText(t, x)
			lookAtReadBoard(t, text[:len(text)/2])
			lookAtBoardText(t, boards[at])
			lookAtReadCommand(t, commandPieces(x).text())
			lookAtReadCommand(t, text)
			lookAtReadBoard(t, text)
			wantSame(t, boards[at], boards[(at+round)%len(boards)], sameBoard(boards[at], boards[(at+round)%len(boards)]))
		}
	}
}
