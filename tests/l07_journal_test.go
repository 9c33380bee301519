package tests

import (
	"fmt"
	"math"
	"slices"
	"strings"
	"testing"

	"loop.example/g00188/impl"
)

func journal(number, term, vote int, l impl.Log) impl.Journal {
	return impl.Journal{Number: number, Term: term, Vote: vote, Log: l}
}

func sameJournal(a, b impl.Journal) bool {
	return a.Number == b.Number && a.Term == b.Term && a.Vote == b.Vote && sameLog(a.Log, b.Log)
}

func copyJournal(j impl.Journal) impl.Journal {
	return journal(j.Number, j.Term, j.Vote, copyLog(j.Log))
}

func numbered(j impl.Journal, number int) impl.Journal {
	out := copyJournal(j)
	out.Number = number
	return out
}

func tellJournal(j impl.Journal) string {
	return fmt.Sprintf("[%d: term %d, vote %d, log %s]", j.Number, j.Term, j.Vote, tellLog(j.Log))
}

func tellActs(acts []impl.Act) string {
	var out strings.Builder
	for at, a := range acts {
		if at == 8 {
			fmt.Fprintf(&out, " .. %d of them", len(acts))
			break
		}
		fmt.Fprintf(&out, " (%d %q %.24q of %d bytes, %q)", a.Kind, a.Name, a.Text, len(a.Text), a.To)
	}
	return "acts" + out.String()
}

func plainJournalOk(j impl.Journal) bool {
	return j.Number >= 0 && j.Number <= 999 && j.Term >= 0 && j.Term <= 100000 && j.Vote >= 0 && j.Vote <= 4 && plainLogOk(j.Log)
}

func beginFrame(start, term int) string {
	return plainFrame("B" + plainLength(start) + plainLength(term))
}

func headFrame(term, vote int) string {
	return plainFrame("H" + plainLength(term) + plainLength(vote))
}

func entryFrame(index int, e impl.Entry) string { return plainFrame(plainEntryText(index, e)) }

// the frames of a right journal by the chapter's words, however long they are
func plainFrames(j impl.Journal) []string {
	list := []string{beginFrame(j.Log.Start, j.Log.StartTerm), headFrame(j.Term, j.Vote)}
	for at, e := range j.Log.Entries {
		list = append(list, entryFrame(j.Log.Start+1+at, e))
	}
	return list
}

func plainJournalText(j impl.Journal) string { return strings.Join(plainFrames(j), "") }

// the two numbers behind this letter, of all the ways to part the record
func plainPair(letter, record string) (int, int, bool) {
	for one := 1; one <= 3; one++ {
		if 1+one >= len(record) {
			continue
		}
		a, b := plainNumber(record[1:1+one]), plainNumber(record[1+one:])
		if len(record)-1-one <= 3 && letter+plainLength(a)+plainLength(b) == record {
			return a, b, true
		}
	}
	return 0, 0, false
}

// ReadJournal by the chapter's words
func plainReadJournal(lengths map[string]int, n int, text string) (impl.Journal, int, bool) {
	records, _ := plainUnframe(lengths, text)
	if n < 0 || n > 999 || len(records) == 0 {
		return impl.Journal{}, 0, false
	}
	start, term, begin := plainPair("B", records[0])
	if !begin || start > 1000000 || term > 100000 {
		return impl.Journal{}, 0, false
	}
	j := journal(n, 0, 0, logOf(start, term))
	place := len(plainFrame(records[0]))
	for _, record := range records[1:] {
		term, vote, head := plainPair("H", record)
		index, e, entry := plainReadEntry(record)
		put, right := plainPut(j.Log, index, e)
		switch {
		case head && term <= 100000 && vote <= 4:
			j.Term, j.Vote = term, vote
		case entry && right:
			j.Log = put
		default:
			return j, place, true
		}
		place += len(plainFrame(record))
	}
	return j, place, true
}

func plainFile(d impl.Disk, name string) (string, bool) {
	for _, f := range d.Files {
		if f.Name == name {
			return f.Text, true
		}
	}
	return "", false
}

// the four acts of a new file by the chapter's words
func plainRenewal(old int, now impl.Journal) ([]impl.Act, impl.Journal, bool) {
	then := numbered(now, old+1)
	text := plainJournalText(then)
	if old+1 > 999 || len(text) > 20000 {
		return nil, impl.Journal{}, false
	}
	return []impl.Act{add("j+", text), keep("j+"), move("j+", fmt.Sprintf("j%d", old+1)), drop(fmt.Sprintf("j%d", old))}, then, true
}

// JournalActs by the chapter's words
func plainJournalActs(lengths map[string]int, d impl.Disk, old, now impl.Journal) ([]impl.Act, impl.Journal, bool) {
	name := fmt.Sprintf("j%d", old.Number)
	text, there := plainFile(d, name)
	_, newThere := plainFile(d, "j+")
	read, place, ok := plainReadJournal(lengths, old.Number, text)
	if !plainRight(d) || !plainJournalOk(old) || !plainJournalOk(now) || !there || !ok || place < len(text) || !sameJournal(read, old) || newThere {
		return nil, impl.Journal{}, false
	}
	ours, theirs := old.Log.Entries, now.Log.Entries
	first := 0
	for first < len(ours) && first < len(theirs) && ours[first] == theirs[first] {
		first++
	}
	if old.Log.Start != now.Log.Start || old.Log.StartTerm != now.Log.StartTerm || len(text) > 400 || first == len(theirs) && len(theirs) < len(ours) {
		return plainRenewal(old.Number, now)
	}
	more := ""
	if old.Term != now.Term || old.Vote != now.Vote {
		more = headFrame(now.Term, now.Vote)
	}
	for at := first; at < len(theirs); at++ {
		more += entryFrame(now.Log.Start+1+at, theirs[at])
	}
	if more == "" {
		return nil, old, true
	}
	return []impl.Act{add(name, more), keep(name)}, numbered(now, old.Number), true
}

// OpenJournal by the chapter's words; the journal is the one that the disk has behind the acts
func plainOpenJournal(lengths map[string]int, d impl.Disk) (impl.Journal, []impl.Act, bool) {
	newest := -1
	for n := range 1000 {
		if _, there := plainFile(d, fmt.Sprintf("j%d", n)); there {
			newest = n
		}
	}
	text, _ := plainFile(d, fmt.Sprintf("j%d", newest))
	j, place, ok := plainReadJournal(lengths, newest, text)
	if !plainRight(d) || !ok {
		return impl.Journal{}, nil, false
	}
	var acts []impl.Act
	if _, there := plainFile(d, "j+"); there {
		acts = append(acts, drop("j+"))
	}
	for _, f := range d.Files {
		for n := range newest {
			if f.Name == fmt.Sprintf("j%d", n) {
				acts = append(acts, drop(f.Name))
			}
		}
	}
	if place == len(text) {
		return j, acts, true
	}
	more, then, ok := plainRenewal(newest, j)
	if !ok {
		return impl.Journal{}, nil, false
	}
	return then, append(acts, more...), true
}

// a journal whose text has just so many bytes (150 at least), which are commands, the last ones as long as it takes
func sizedJournal(t *testing.T, number, bytes int) impl.Journal {
	t.Helper()
	j := journal(number, 1, 1, logOf(0, 1))
	put := func(data int) { j.Log.Entries = append(j.Log.Entries, command(1, longText(data))) }
	left := bytes - 16
	for ; left >= 650+134; left -= 650 {
		put(640)
	}
	if left > 650 {
		put(124)
		left -= 134
	}
	put(left - 10)
	if got := len(plainJournalText(j)); got != bytes || !plainJournalOk(j) {
		t.Fatalf("the test's own journal has %d bytes, not %d, or is not right", got, bytes)
	}
	return j
}

// logs with no entry, with one and with many, whose journals have at most MaxText bytes
func journalLogs() []impl.Log {
	var list []impl.Log
	for _, l := range rightLogs() {
		if len(plainJournalText(journal(0, 100000, 4, l))) <= 20000 {
			list = append(list, l)
		}
	}
	return list
}

func rightJournals() []impl.Journal {
	var list []impl.Journal
	for at, l := range journalLogs() {
		list = append(list, journal(at, at%3, at%5, l), journal(0, 0, 0, l), journal(999, 100000, 4, l), journal(999-at, 100000-at, 4-at%5, l))
	}
	for _, term := range edgeTerms() {
		for vote := range 5 {
			list = append(list, journal(term%1000, term, vote, logOf(term, term, none(term))))
		}
	}
	return list
}

// journals that are wrong in one thing alone
func wrongJournals() []impl.Journal {
	l := logOf(7, 3, none(3), command(4, "x"))
	var list []impl.Journal
	for _, n := range wrongSegments() {
		list = append(list, journal(n, 5, 2, l), journal(n, 0, 0, impl.Log{}))
	}
	for _, term := range wrongTerms() {
		list = append(list, journal(4, term, 2, l), journal(0, term, 0, impl.Log{}))
	}
	for _, vote := range wrongVotes() {
		list = append(list, journal(4, 5, vote, l), journal(0, 0, vote, impl.Log{}))
	}
	for _, wrong := range wrongLogs() {
		list = append(list, journal(4, 5, 2, wrong), journal(0, 0, 0, wrong))
	}
	return list
}

func wrongSegments() []int {
	return []int{-1, -2, -999, 1000, 1001, 9999, impl.MaxNumber, impl.MaxNumber + 1, 1<<32 + 1, -1<<32 + 1, math.MaxInt64, math.MinInt64}
}

func wrongVotes() []int {
	return []int{-1, -2, -4, 5, 6, 128, 256, 257, 1<<32 + 1, -1<<32 + 1, math.MaxInt64, math.MinInt64}
}

func wantRead(t *testing.T, n int, text string, want impl.Journal, place int, right bool) {
	t.Helper()
	if got, at, ok := impl.ReadJournal(n, text); !sameJournal(got, want) || at != place || ok != right {
		t.Fatalf("ReadJournal(%d, %.60q) of %d bytes = %s, %d, %v, want %s, %d, %v", n, text, len(text), tellJournal(got), at, ok, tellJournal(want), place, right)
	}
}

func refuseRead(t *testing.T, n int, text string) {
	t.Helper()
	wantRead(t, n, text, impl.Journal{}, 0, false)
}

func wantJournalActs(t *testing.T, d impl.Disk, old, now impl.Journal, acts []impl.Act, then impl.Journal, right bool) {
	t.Helper()
	got, j, ok := impl.JournalActs(d, old, now)
	if !slices.Equal(got, acts) || !sameJournal(j, then) || ok != right {
		t.Fatalf("JournalActs(%s, %s, %s) = %s, %s, %v, want %s, %s, %v", tell(d), tellJournal(old), tellJournal(now), tellActs(got), tellJournal(j), ok, tellActs(acts), tellJournal(then), right)
	}
}

func refuseJournalActs(t *testing.T, d impl.Disk, old, now impl.Journal) {
	t.Helper()
	wantJournalActs(t, d, old, now, nil, impl.Journal{}, false)
}

func wantOpen(t *testing.T, d impl.Disk, want impl.Journal, acts []impl.Act, right bool) {
	t.Helper()
	j, got, ok := impl.OpenJournal(d)
	if !slices.Equal(got, acts) || !sameJournal(j, want) || ok != right {
		t.Fatalf("OpenJournal(%s) = %s, %s, %v, want %s, %s, %v", tell(d), tellJournal(j), tellActs(got), ok, tellJournal(want), tellActs(acts), right)
	}
}

func refuseOpen(t *testing.T, d impl.Disk) {
	t.Helper()
	wantOpen(t, d, impl.Journal{}, nil, false)
}

// a disk with a file of this journal, all of it kept, between others that have nothing to do with it
func diskWith(j impl.Journal) impl.Disk {
	text := plainJournalText(j)
	return disk(file("a", "1", 0), file("j", "2", 1), file(fmt.Sprintf("j%d", j.Number), text, len(text)), file("s0", "3", 0))
}

func mustDo(t *testing.T, d impl.Disk, acts []impl.Act) impl.Disk {
	t.Helper()
	out, n := impl.DoActs(d, acts)
	if n != len(acts) {
		t.Fatalf("of %s %d can be done on %s", tellActs(acts), n, tell(d))
	}
	return out
}

func TestJournalConstants(t *testing.T) {
	if impl.MaxSegment != 999 || impl.SegBytes != 400 || impl.NameNew != "j+" {
		t.Errorf("constants %d, %d, %q", impl.MaxSegment, impl.SegBytes, impl.NameNew)
	}
}

func TestJournalName(t *testing.T) {
	for n, want := range map[int]string{0: "j0", 1: "j1", 9: "j9", 10: "j10", 99: "j99", 100: "j100", 998: "j998", 999: "j999"} {
		if got := impl.JournalName(n); got != want {
			t.Errorf("JournalName(%d) = %q, want %q", n, got, want)
		}
	}
	for n := range 1000 {
		if got := impl.JournalName(n); got != fmt.Sprintf("j%d", n) {
			t.Errorf("JournalName(%d) = %q", n, got)
		}
	}
	for _, n := range wrongSegments() {
		if got := impl.JournalName(n); got != "" {
			t.Errorf("JournalName(%d) = %q, want nothing", n, got)
		}
	}
}

func TestJournalOk(t *testing.T) {
	for _, j := range append(rightJournals(), journal(0, 0, 0, logOf(5, 2, slices.Repeat([]impl.Entry{command(2, longText(640))}, 60)...))) {
		if !plainJournalOk(j) {
			t.Fatalf("the test's own journal is not right: %s", tellJournal(j))
		}
		if !impl.JournalOk(j) {
			t.Errorf("JournalOk(%s) is false", tellJournal(j))
		}
	}
	for _, j := range wrongJournals() {
		if plainJournalOk(j) {
			t.Fatalf("the test's own journal is not wrong: %s", tellJournal(j))
		}
		if impl.JournalOk(j) {
			t.Errorf("JournalOk(%s) is true", tellJournal(j))
		}
	}
}

// Texts that are written out by hand; the sums were reckoned bit by bit outside of the program.
func handJournals() []struct {
	journal impl.Journal
	frames  []string
} {
	return []struct {
		journal impl.Journal
		frames  []string
	}{
		{impl.Journal{}, []string{"\x03\x81\xd3\xbb%B\x00\x00", "\x03\x10[\x01\xb6H\x00\x00"}},
		{journal(999, 100000, 4, logOf(1000000, 100000)), []string{"\x07\xb1\x02\x08\xe6B\xc0\x84=\xa0\x8d\x06", "\x05\xe3\xb6cpH\xa0\x8d\x06\x04"}},
		{journal(0, 1, 0, logOf(0, 0, none(1))), []string{"\x03\x81\xd3\xbb%B\x00\x00", "\x03\x8b\xa9\xdd\xc7H\x01\x00", "\x04p\x95mTE\x01\x01\x01"}},
		{handOld(), []string{
			"\x03n\x0e\xee\xf5B\x07\x03", "\x03K\x8d\xa4\xe0H\x05\x02", "\x04\x92\x91\xf0#E\x08\x03\x01", "\x05\x0aD9\xb1E\x09\x04\x03x", "\x06[\xccwBE\x0a\x05\x02\x01\x03",
		}},
	}
}

func handOld() impl.Journal {
	return journal(4, 5, 2, logOf(7, 3, none(3), command(4, "x"), conf(5, "\x01\x03")))
}

func TestJournalBytes(t *testing.T) {
	for _, c := range handJournals() {
		want := strings.Join(c.frames, "")
		if got, ok := impl.JournalText(c.journal); got != want || !ok {
			t.Errorf("JournalText(%s) = %q, %v, want %q", tellJournal(c.journal), got, ok, want)
		}
		wantRead(t, c.journal.Number, want, c.journal, len(want), true)
	}
}

// A journal comes back from its text, every field, with the place behind its last byte.
func TestJournalsComeBack(t *testing.T) {
	for _, j := range rightJournals() {
		text, ok := impl.JournalText(j)
		if !ok || text != plainJournalText(j) {
			t.Fatalf("JournalText(%s) = %.60q, %v", tellJournal(j), text, ok)
		}
		wantRead(t, j.Number, text, j, len(text), true)
		// the Number is that which is told, not one of the text
		for _, n := range []int{0, 1, 500, 999} {
			wantRead(t, n, text, numbered(j, n), len(text), true)
		}
	}
}

func TestJournalTextRefusesWrongJournals(t *testing.T) {
	for _, j := range wrongJournals() {
		if got, ok := impl.JournalText(j); got != "" || ok {
			t.Errorf("JournalText(%s) = %.60q, %v, want nothing", tellJournal(j), got, ok)
		}
	}
}

func TestJournalTextUpToMaxText(t *testing.T) {
	for _, bytes := range []int{19998, 19999, 20000} {
		j := sizedJournal(t, 3, bytes)
		text, ok := impl.JournalText(j)
		if len(text) != bytes || !ok {
			t.Errorf("JournalText of %d bytes has %d, %v", bytes, len(text), ok)
		}
		wantRead(t, 3, text, j, bytes, true)
	}
	for _, bytes := range []int{20001, 20002, 20650, 39000} {
		if got, ok := impl.JournalText(sizedJournal(t, 3, bytes)); got != "" || ok {
			t.Errorf("JournalText that would have %d bytes has %d, %v", bytes, len(got), ok)
		}
	}
}

// Of a text that is cut anywhere, what the whole frames ahead tell, and the place behind them.
func TestCutJournals(t *testing.T) {
	logs := []impl.Log{{}, logOf(0, 0, none(0)), longLog(41, 6, 20), logOf(1000000, 100000), logOf(999940, 0, longLog(0, 0, 60).Entries...), logOf(7, 3, command(3, longText(300)), none(9))}
	for _, l := range logs {
		j := journal(17, 100000, 3, l)
		told := []impl.Journal{{}, journal(17, 0, 0, logOf(l.Start, l.StartTerm)), journal(17, 100000, 3, logOf(l.Start, l.StartTerm))}
		for at := range l.Entries {
			told = append(told, journal(17, 100000, 3, logOf(l.Start, l.StartTerm, l.Entries[:at+1]...)))
		}
		text := plainJournalText(j)
		frames := plainFrames(j)
		whole, behind := 0, 0
		for cut := range len(text) + 1 {
			if whole < len(frames) && cut == behind+len(frames[whole]) {
				behind = cut
				whole++
			}
			wantRead(t, 17, text[:cut], told[whole], behind, whole > 0)
		}
		if whole != len(frames) {
			t.Fatalf("the test's own frames are %d, not %d", whole, len(frames))
		}
	}
}

// what is no further frame of a journal whose log ends at 10, with the term 5
func strangeBehind() []string {
	list := []string{
		"t", "torn", "\x00", "\x03", "\x00\x00\x00\x00\x00", "\x03\x00\x00\x00\x00H\x05\x02", "\x83\x00" + headFrame(5, 1)[1:], "\x04\x92\x91\xf0#E\x08\x03",
		turned(headFrame(5, 1), 6, 1), turned(headFrame(5, 1), 1, 128), headFrame(5, 1)[:7], entryFrame(11, none(5))[:8],
		// of neither kind
		plainFrame("h\x05\x02"), plainFrame("e\x0b\x05\x01"), plainFrame("X"), plainFrame("\x00"), plainFrame("\x05\x02"), plainFrame(longText(9000)),
		// a B stands at the beginning alone
		beginFrame(7, 3), beginFrame(10, 5), beginFrame(0, 0), plainFrame("B"),
		// an H that is torn, has bytes left or a longer form
		plainFrame("H"), plainFrame("H\x05"), plainFrame("H\x80"), plainFrame("H\x05\x80"), plainFrame("H\xff\xff\xff\xff\xff\xff\x05\x01"), plainFrame("H\x05\x02\x00"),
		plainFrame("H\x05\x02\x02"), plainFrame("HH\x05\x02"), plainFrame("H\x85\x00\x02"), plainFrame("H\x05\x82\x00"), plainFrame("H\x05\x02" + longText(500)),
		// an H beyond the limits
		headFrame(100001, 0), headFrame(5, 5), headFrame(1<<20, 1), headFrame(5, 128), headFrame(5, 1<<20), plainFrame("H\x80\x94\xeb\xdc\x03\x01"), plainFrame("H\x81\x94\xeb\xdc\x03\x01"),
		// no entry
		plainFrame("E"), plainFrame("E\x0b"), plainFrame("E\x0b\x05"), plainFrame("E\x0b\x05\x00"), plainFrame("E\x0b\x05\x04"), plainFrame("E\x0b\x05\x01x"), plainFrame("E\x0b\x05\x02\x03\x01"),
		plainFrame("E\x8b\x00\x05\x01"), plainFrame("E\x0b\xa1\x8d\x06\x01"), plainFrame("E\x0b\x05\x03" + longText(641)),
	}
	// an entry that LogPut refuses: out of its place, or with a term that falls
	for _, index := range []int{0, 1, 6, 7, 12, 13, 60, 1000000, 1000001} {
		list = append(list, entryFrame(index, none(5)), entryFrame(index, command(100000, "x")))
	}
	for index, term := range map[int]int{8: 2, 9: 2, 10: 3, 11: 4} {
		list = append(list, entryFrame(index, none(term)), entryFrame(index, none(0)))
	}
	return list
}

// Of a text that goes on with what is none of its frames, what the frames ahead tell; what stands behind is not looked at.
func TestJournalsWithSomethingBehind(t *testing.T) {
	lengths := plainLengths()
	j := handOld()
	text := plainJournalText(j)
	for _, strange := range strangeBehind() {
		for _, behind := range []string{"", "x", headFrame(9, 1), entryFrame(11, none(9)), entryFrame(8, none(9)), beginFrame(7, 3), text} {
			wantRead(t, 4, text+strange+behind, j, len(text), true)
			if _, place, _ := plainReadJournal(lengths, 4, text+strange+behind); place != len(text) {
				t.Fatalf("the test's own words read %q up to %d, not %d", strange, place, len(text))
			}
			// ahead of any H, and ahead of any entry
			begin := beginFrame(1000000, 5)
			wantRead(t, 4, begin+plainFrame("X")+behind, journal(4, 0, 0, logOf(1000000, 5)), len(begin), true)
		}
	}
}

// each further H tells Term and Vote anew, also lesser ones; each entry takes its place, and all behind goes
func TestJournalFramesInARow(t *testing.T) {
	text := beginFrame(7, 3)
	j := journal(12, 0, 0, logOf(7, 3))
	wantRead(t, 12, text, j, len(text), true)
	for _, step := range []struct {
		frame      string
		term, vote int
		entries    []impl.Entry
	}{
		{headFrame(9, 4), 9, 4, nil},
		{entryFrame(8, none(3)), 9, 4, []impl.Entry{none(3)}},
		{headFrame(8, 0), 8, 0, []impl.Entry{none(3)}},
		{entryFrame(9, command(5, "one")), 8, 0, []impl.Entry{none(3), command(5, "one")}},
		{entryFrame(10, command(5, "two")), 8, 0, []impl.Entry{none(3), command(5, "one"), command(5, "two")}},
		{entryFrame(9, command(4, "else")), 8, 0, []impl.Entry{none(3), command(4, "else")}},
		{headFrame(0, 0), 0, 0, []impl.Entry{none(3), command(4, "else")}},
		{headFrame(100000, 4), 100000, 4, []impl.Entry{none(3), command(4, "else")}},
		{entryFrame(10, conf(100000, "\x02")), 100000, 4, []impl.Entry{none(3), command(4, "else"), conf(100000, "\x02")}},
		{entryFrame(10, conf(100000, "\x02")), 100000, 4, []impl.Entry{none(3), command(4, "else"), conf(100000, "\x02")}},
		{entryFrame(8, command(3, longText(640))), 100000, 4, []impl.Entry{command(3, longText(640))}},
		{headFrame(100000, 3), 100000, 3, []impl.Entry{command(3, longText(640))}},
	} {
		text += step.frame
		j = journal(12, step.term, step.vote, logOf(7, 3, step.entries...))
		wantRead(t, 12, text, j, len(text), true)
		wantRead(t, 12, text+"torn", j, len(text), true)
	}
}

// at the limits of a log: sixty entries and the last index, but no more
func TestReadJournalLimits(t *testing.T) {
	full := journal(1, 2, 3, longLog(9, 1, 60))
	text := plainJournalText(full)
	wantRead(t, 1, text, full, len(text), true)
	wantRead(t, 1, text+entryFrame(70, none(100000)), full, len(text), true)
	again := text + entryFrame(69, none(100000))
	wantRead(t, 1, again, journal(1, 2, 3, logOf(9, 1, append(slices.Clone(full.Log.Entries[:59]), none(100000))...)), len(again), true)
	last := journal(1, 2, 3, logOf(999999, 1, none(1)))
	text = plainJournalText(last)
	wantRead(t, 1, text, last, len(text), true)
	wantRead(t, 1, text+entryFrame(1000001, none(1)), last, len(text), true)
	text = beginFrame(1000000, 1)
	wantRead(t, 1, text+entryFrame(1000001, none(1)), journal(1, 0, 0, logOf(1000000, 1)), len(text), true)
}

func TestReadJournalRefuses(t *testing.T) {
	text := plainJournalText(handOld())
	for _, n := range wrongSegments() {
		refuseRead(t, n, text)
		refuseRead(t, n, "")
	}
	refuseRead(t, 0, "")
	refuseRead(t, 999, "")
	for _, first := range []string{
		"B", "B\x00\x00", "\x03", "\x00", "torn", headFrame(0, 0), headFrame(5, 2), entryFrame(1, none(0)), entryFrame(8, none(3)),
		turned(beginFrame(7, 3), 0, 1), turned(beginFrame(7, 3), 2, 1), turned(beginFrame(7, 3), 5, 1), turned(beginFrame(7, 3), 7, 1), beginFrame(7, 3)[1:], "x" + beginFrame(7, 3),
		plainFrame("b\x07\x03"), plainFrame("X\x07\x03"), plainFrame("\x07\x03"), plainFrame("B"), plainFrame("B\x07"), plainFrame("B\x87"), plainFrame("B\x07\x83"), plainFrame("B\x07\x03\x00"),
		plainFrame("B\x07\x03B"), plainFrame("BB\x07\x03"), plainFrame("B\x87\x00\x03"), plainFrame("B\x07\x83\x00"), plainFrame("B\xff\xff\xff\xff\xff\x01\x03"),
		beginFrame(1000001, 3), beginFrame(1<<20, 0), beginFrame(7, 100001), beginFrame(0, 1000000), plainFrame("B\x80\x94\xeb\xdc\x03\x03"), plainFrame("B\x81\x94\xeb\xdc\x03\x03"),
	} {
		for _, n := range []int{0, 4, 999} {
			refuseRead(t, n, first)
			refuseRead(t, n, first+text)
			refuseRead(t, n, first+headFrame(5, 2))
		}
	}
}

// A file that is longer than MaxText has no frame; one of just MaxText has all of them.
func TestReadJournalUpToMaxText(t *testing.T) {
	j := sizedJournal(t, 0, 19990)
	text := plainJournalText(j)
	for _, left := range []int{1, 9, 10} {
		wantRead(t, 5, text+strings.Repeat("\x00", left), numbered(j, 5), 19990, true)
	}
	for _, left := range []int{11, 12, 20000, 40000} {
		refuseRead(t, 5, text+strings.Repeat("\x00", left))
	}
	whole := plainJournalText(sizedJournal(t, 0, 20000))
	refuseRead(t, 5, whole+"x")
	refuseRead(t, 5, whole+whole)
	refuseRead(t, 5, beginFrame(0, 0)+strings.Repeat(headFrame(1, 1), 2500))
	// 2499 frames of 8 bytes behind the first one
	wantRead(t, 5, beginFrame(0, 0)+strings.Repeat(headFrame(1, 1), 2499), journal(5, 1, 1, impl.Log{}), 20000, true)
}

// a frame of a file whose log ends at last, most often one that fits behind it
func drawnFrame(d *draw, last int) string {
	switch d.below(24) {
	case 0, 1, 2, 3:
		return headFrame(d.below(4)*d.below(40000), d.below(6))
	case 4:
		return beginFrame(d.below(5), d.below(4))
	case 5:
		text := headFrame(3, 3)
		return turned(text, d.below(len(text)), byte(1+d.below(255)))
	case 6:
		return []string{"x", plainFrame("H\x01"), plainFrame("X"), plainFrame("H\x01\x01\x01"), entryFrame(0, none(1))}[d.below(5)]
	}
	index := last + 1
	if d.below(4) == 0 {
		index = d.below(last + 3)
	}
	return entryFrame(index, []impl.Entry{none(2), command(2, longText(d.below(3))), conf(2, "\x01"), {Term: 1 + d.below(3), Kind: 2 + d.below(3), Data: "\x02"}}[d.below(4)])
}

// a file of some frames, most often a journal's
func drawnFile(lengths map[string]int, d *draw) string {
	text := ""
	if d.below(20) > 0 {
		text = beginFrame(d.below(2), d.below(2))
	}
	for range d.below(12) {
		j, _, _ := plainReadJournal(lengths, 0, text)
		text += drawnFrame(d, j.Log.Start+len(j.Log.Entries))
	}
	if d.below(4) == 0 {
		text = text[:d.below(len(text)+1)]
	}
	return text
}

// files drawn of right and strange frames, also cut, by the chapter's words
func TestDrawnJournalTexts(t *testing.T) {
	lengths := plainLengths()
	d := draw(7)
	whole, many, left, headed := 0, 0, 0, 0
	for range 8000 {
		text := drawnFile(lengths, &d)
		n := d.below(1004) - 2
		j, place, right := plainReadJournal(lengths, n, text)
		wantRead(t, n, text, j, place, right)
		if j.Term > 0 {
			headed++
		}
		switch {
		case !right:
		case place < len(text):
			left++
		case len(j.Log.Entries) > 2:
			many++
		default:
			whole++
		}
	}
	if whole < 300 || many < 200 || left < 300 || headed < 300 {
		t.Errorf("of the drawn texts %d were whole and short, %d whole and long, %d had bytes left, %d told a term", whole, many, left, headed)
	}
}

func TestJournalActsFixed(t *testing.T) {
	old := handOld()
	text := strings.Join(handJournals()[3].frames, "")
	d := disk(file("j4", text, len(text)))
	with := func(term, vote int, entries ...impl.Entry) impl.Journal {
		return journal(4, term, vote, logOf(7, 3, entries...))
	}
	vote, last := "\x037\xeb\xd41H\x05\x01", "\x05zP\x14\xe5E\x09\x05\x03y"
	for _, c := range []struct {
		now  impl.Journal
		text string
	}{
		{with(5, 1, old.Log.Entries...), vote},
		{with(5, 2, none(3), command(5, "y")), last},
		{with(5, 1, none(3), command(5, "y")), vote + last},
		{with(6, 2, old.Log.Entries...), headFrame(6, 2)},
		{with(5, 2, append(slices.Clone(old.Log.Entries), none(5))...), entryFrame(11, none(5))},
		{with(6, 0, append(slices.Clone(old.Log.Entries), none(5), none(6))...), headFrame(6, 0) + entryFrame(11, none(5)) + entryFrame(12, none(6))},
		{with(5, 2, command(3, "")), entryFrame(8, command(3, ""))},
		{with(5, 2, none(4), command(4, "x"), conf(5, "\x01\x03")), entryFrame(8, none(4)) + entryFrame(9, command(4, "x")) + entryFrame(10, conf(5, "\x01\x03"))},
		{with(5, 2, none(3), command(4, "x"), conf(5, "\x01")), entryFrame(10, conf(5, "\x01"))},
	} {
		wantJournalActs(t, d, old, c.now, []impl.Act{add("j4", c.text), keep("j4")}, c.now, true)
		// now's Number tells nothing
		for _, number := range []int{0, 5, 999} {
			wantJournalActs(t, d, old, numbered(c.now, number), []impl.Act{add("j4", c.text), keep("j4")}, c.now, true)
		}
	}
	wantJournalActs(t, d, old, old, nil, old, true)
	wantJournalActs(t, d, old, numbered(old, 77), nil, old, true)
	for _, now := range []impl.Journal{
		with(5, 2, none(3), command(4, "x")),
		with(5, 2, none(3)),
		with(5, 2),
		with(9, 1, none(3)),
		journal(4, 5, 2, logOf(8, 3, command(4, "x"), conf(5, "\x01\x03"))),
		journal(4, 5, 2, logOf(7, 2, old.Log.Entries...)),
		journal(4, 5, 2, logOf(6, 3, append([]impl.Entry{none(3)}, old.Log.Entries...)...)),
		journal(4, 5, 2, logOf(6, 3, old.Log.Entries...)),
		journal(4, 0, 0, impl.Log{}),
	} {
		whole, ok := impl.JournalText(now)
		acts := []impl.Act{add("j+", whole), keep("j+"), move("j+", "j5"), drop("j4")}
		if !ok {
			t.Fatalf("JournalText(%s) is false", tellJournal(now))
		}
		for _, number := range []int{0, 4, 5, 999} {
			wantJournalActs(t, d, old, numbered(now, number), acts, numbered(now, 5), true)
		}
	}
}

// A new file is begun when the old one is longer than SegBytes, also when nothing is unlike; what comes to it counts for nothing.
func TestNewFileBehindSegBytes(t *testing.T) {
	for _, bytes := range []int{398, 399, 400, 401, 402, 500, 5000} {
		old := sizedJournal(t, 8, bytes)
		d := diskWith(old)
		count := len(old.Log.Entries)
		more := journal(8, 1, 1, logOf(0, 1, append(slices.Clone(old.Log.Entries), none(3))...))
		for _, now := range []impl.Journal{old, journal(8, 2, 1, old.Log), journal(8, 1, 0, old.Log), more, journal(8, 1, 1, logOf(0, 1, none(1)))} {
			acts, then, ok := impl.JournalActs(d, old, now)
			renewed := len(acts) == 4 && acts[0].Name == "j+" && then.Number == 9
			if !ok || renewed != (bytes > 400) || !renewed && (len(acts) == 0) != sameJournal(old, now) {
				t.Errorf("with a file of %d bytes: %s, %s, %v", bytes, tellActs(acts), tellJournal(then), ok)
			}
			want, j, _ := plainJournalActs(plainLengths(), d, old, now)
			wantJournalActs(t, d, old, now, want, j, true)
		}
		// a file that is long by frames which have been told anew, of a journal that is short
		short := journal(8, 3, 3, logOf(0, 1, none(1)))
		text := plainJournalText(old) + entryFrame(1, none(1)) + headFrame(3, 3)
		wantJournalActs(t, disk(file("j8", text, len(text))), short, short, []impl.Act{add("j+", plainJournalText(short)), keep("j+"), move("j+", "j9"), drop("j8")}, numbered(short, 9), true)
		// and one that only comes to be long
		if bytes <= 400 {
			long := journal(8, 1, 1, logOf(0, 1, append(slices.Clone(old.Log.Entries), command(1, longText(640)))...))
			wantJournalActs(t, d, old, long, []impl.Act{add("j8", entryFrame(count+1, command(1, longText(640)))), keep("j8")}, long, true)
		}
	}
}

// journals of which each may become each other: heads and logs that are unlike in all ways
func livelyJournals() []impl.Journal {
	many := longLog(3, 1, 12)
	var list []impl.Journal
	for at, l := range []impl.Log{
		{}, logOf(3, 1), logOf(3, 0), logOf(4, 1), logOf(3, 1, none(1)), logOf(3, 1, none(2)), logOf(3, 1, command(1, "")), logOf(4, 1, none(1)), many,
		logOf(3, 1, many.Entries[:1]...), logOf(3, 1, many.Entries[:11]...), logOf(3, 1, append(slices.Clone(many.Entries[:5]), none(9))...),
		logOf(3, 1, append(slices.Clone(many.Entries[:11]), command(many.Entries[11].Term, "!"))...), logOf(3, 1, append(slices.Clone(many.Entries), none(5), command(6, "x"))...),
		logOf(3, 1, slices.Repeat([]impl.Entry{none(1)}, 60)...), longLog(3, 1, 60), logOf(1000000, 100000), logOf(3, 1, command(2, longText(360))), logOf(3, 1, command(2, longText(640)), none(3)),
	} {
		list = append(list, journal(5, 1+at%2, at%5, l))
	}
	return append(list, journal(5, 0, 0, many), journal(5, 100000, 4, many), journal(5, 1, 4, many))
}

// The acts, done on the disk, leave a file that is read as the journal that was told, with no acts to do.
func TestJournalActsAreDone(t *testing.T) {
	lengths := plainLengths()
	renewed := 0
	for _, old := range livelyJournals() {
		d := diskWith(old)
		for _, now := range livelyJournals() {
			acts, then, ok := impl.JournalActs(d, old, now)
			want, journal, right := plainJournalActs(lengths, d, old, now)
			wantJournalActs(t, d, old, now, want, journal, right)
			if !ok || !sameJournal(then, numbered(now, then.Number)) {
				t.Fatalf("JournalActs(%s, %s) tells %s, %v", tellJournal(old), tellJournal(now), tellJournal(then), ok)
			}
			behind := mustDo(t, d, acts)
			wantOpen(t, behind, then, nil, true)
			text, there := impl.FileAt(behind, impl.JournalName(then.Number))
			if f := behind.Files[slices.IndexFunc(behind.Files, func(f impl.File) bool { return f.Name == impl.JournalName(then.Number) })]; !there || f.Kept != len(text) {
				t.Fatalf("of %s not all is kept", tell(behind))
			}
			wantRead(t, then.Number, text, then, len(text), true)
			if len(behind.Files) != len(d.Files) {
				t.Fatalf("%s comes of %s", tell(behind), tell(d))
			}
			if then.Number > old.Number {
				renewed++
			}
			// nothing more is to be done then, but of a file that is too long
			if again, same, ok := impl.JournalActs(behind, then, now); len(text) <= 400 && (len(again) != 0 || !ok || !sameJournal(same, then)) {
				t.Fatalf("JournalActs of nothing new = %s, %s, %v", tellActs(again), tellJournal(same), ok)
			}
		}
	}
	if renewed < 100 || renewed > 400 {
		t.Errorf("%d new files were begun", renewed)
	}
}

// a life of one journal, whose file goes on and is begun anew again and again
func TestJournalActsInARow(t *testing.T) {
	lengths := plainLengths()
	draws := draw(77)
	j := journal(0, 0, 0, impl.Log{})
	d := diskWith(j)
	added := 0
	for round := range 1500 {
		now := numbered(j, draws.below(1000))
		switch draws.below(8) {
		case 0:
			now.Term, now.Vote = min(now.Term+1, 100000), draws.below(5)
		case 1:
			base := now.Log.Start + draws.below(len(now.Log.Entries)+1)
			now.Log = plainBehind(now.Log, base, plainTerm(now.Log, base))
		case 2:
			now.Log.Entries = now.Log.Entries[:draws.below(len(now.Log.Entries)+1)]
		default:
			for range draws.below(3) {
				index := now.Log.Start + 1 + draws.below(len(now.Log.Entries)+1)
				if put, ok := plainPut(now.Log, index, command(plainTerm(now.Log, index-1)+draws.below(2), longText(draws.below(30)))); ok {
					now.Log = put
				}
			}
		}
		acts, then, ok := plainJournalActs(lengths, d, j, now)
		wantJournalActs(t, d, j, now, acts, then, ok)
		if !ok {
			if j.Number != 999 {
				t.Fatalf("round %d: JournalActs is false of %s", round, tellJournal(j))
			}
			break
		}
		if len(acts) == 2 {
			added++
		}
		d, j = mustDo(t, d, acts), then
		wantOpen(t, d, j, nil, true)
	}
	if j.Number < 100 || added < 100 {
		t.Errorf("%d files were begun, and frames put to them %d times", j.Number, added)
	}
}

// whether j, read behind a cut, is of old and now: the head of one of both, and a log without an entry of neither
func lookAtBetween(t *testing.T, old, now, j impl.Journal) {
	t.Helper()
	isOldHead, isNewHead := j.Term == old.Term && j.Vote == old.Vote, j.Term == now.Term && j.Vote == now.Vote
	isOldStart := j.Log.Start == old.Log.Start && j.Log.StartTerm == old.Log.StartTerm
	isNewStart := j.Log.Start == now.Log.Start && j.Log.StartTerm == now.Log.StartTerm
	if !isOldHead && !isNewHead || !isOldStart && !isNewStart {
		t.Fatalf("%s is between %s and %s", tellJournal(j), tellJournal(old), tellJournal(now))
	}
	for at, e := range j.Log.Entries {
		one, _ := plainEntryAt(old.Log, j.Log.Start+1+at)
		two, _ := plainEntryAt(now.Log, j.Log.Start+1+at)
		if e != one && e != two {
			t.Fatalf("the entry %d of %s is neither of %s nor of %s", j.Log.Start+1+at, tellJournal(j), tellJournal(old), tellJournal(now))
		}
	}
	// the old log whole, or a beginning of the new one
	isBeginning := isNewStart && len(j.Log.Entries) <= len(now.Log.Entries) && slices.Equal(j.Log.Entries, now.Log.Entries[:len(j.Log.Entries)])
	if !sameLog(j.Log, old.Log) && (!isBeginning || !isNewHead) {
		t.Fatalf("%s is no step from %s to %s", tellJournal(j), tellJournal(old), tellJournal(now))
	}
}

// what the power leaves of a disk is opened, and needs nothing more behind the acts of that
func openLost(t *testing.T, lost impl.Disk) impl.Journal {
	t.Helper()
	j, acts, ok := impl.OpenJournal(lost)
	if !ok {
		t.Fatalf("OpenJournal(%s) is false", tell(lost))
	}
	behind := mustDo(t, lost, acts)
	wantOpen(t, behind, j, nil, true)
	if !impl.AllKept(behind) || len(behind.Files) != 4 {
		t.Fatalf("%s comes of %s", tell(behind), tell(lost))
	}
	return j
}

// each disk that the power may leave behind so many acts, from what is kept up to all of it
func cutsBehind(t *testing.T, d impl.Disk, acts []impl.Act, whole int) []impl.Disk {
	t.Helper()
	longest := 0
	for _, f := range mustDo(t, d, acts[:whole]).Files {
		longest = max(longest, len(f.Text))
	}
	var list []impl.Disk
	for left := range longest + 1 {
		lost, ok := impl.CutActs(d, acts, whole, slices.Repeat([]int{left}, 8))
		if !ok {
			t.Fatalf("CutActs(%s, %d) is false", tellActs(acts), whole)
		}
		if len(list) == 0 || !sameDisk(lost, list[len(list)-1]) {
			list = append(list, lost)
		}
	}
	return list
}

// Whatever the power leaves of the acts, at each place, it is the old journal, or one between it and the new one.
func TestPowerGoesWithinJournalActs(t *testing.T) {
	lively := livelyJournals()
	pairs := [][2]impl.Journal{}
	for at, old := range lively {
		for _, step := range []int{0, 1, 4, 9, 15} {
			pairs = append(pairs, [2]impl.Journal{old, lively[(at+step)%len(lively)]})
		}
	}
	pairs = append(pairs,
		[2]impl.Journal{lively[11], lively[8]}, [2]impl.Journal{lively[8], lively[11]}, [2]impl.Journal{lively[8], lively[12]}, [2]impl.Journal{lively[8], lively[13]},
		[2]impl.Journal{lively[10], lively[8]}, [2]impl.Journal{lively[8], lively[10]}, [2]impl.Journal{lively[9], lively[15]}, [2]impl.Journal{lively[19], lively[13]},
		[2]impl.Journal{sizedJournal(t, 5, 400), journal(5, 2, 2, logOf(0, 1, command(1, "x"), none(2)))},
		[2]impl.Journal{sizedJournal(t, 5, 401), journal(5, 2, 2, logOf(0, 1, command(1, "x"), none(2)))})
	between := 0
	for _, pair := range pairs {
		old, now := pair[0], pair[1]
		d := diskWith(old)
		acts, then, ok := impl.JournalActs(d, old, now)
		if !ok {
			t.Fatalf("JournalActs(%s, %s) is false", tellJournal(old), tellJournal(now))
		}
		for whole := range len(acts) + 1 {
			for _, lost := range cutsBehind(t, d, acts, whole) {
				j := openLost(t, lost)
				lookAtBetween(t, old, now, j)
				if whole == 0 && !sameJournal(j, old) || whole == len(acts) && !sameJournal(j, then) {
					t.Fatalf("behind %d of %s: %s", whole, tellActs(acts), tellJournal(j))
				}
				if !sameJournal(j, old) && !sameJournal(j, then) {
					between++
				}
			}
		}
	}
	if between < 1000 {
		t.Errorf("%d cuts alone left something between", between)
	}
}

// The power may go again while the journal is opened: it stays the same but for its Number.
func TestPowerGoesWithinOpenJournal(t *testing.T) {
	j := journal(5, 9, 3, longLog(3, 1, 12))
	text := plainJournalText(j)
	for _, torn := range []string{"", "t", headFrame(10, 1)[:7], entryFrame(16, command(9, "never whole"))[:12]} {
		d := disk(file("a", "1", 1), file("j", "2", 1), file("j+", longText(90), 0), file("j3", "old", 3), file("j4", text, 7), file("j5", text+torn, len(text+torn)), file("s0", "3", 1))
		told, acts, ok := impl.OpenJournal(d)
		if !ok {
			t.Fatalf("OpenJournal with %q left is false", torn)
		}
		for whole := range len(acts) + 1 {
			for _, lost := range cutsBehind(t, d, acts, whole) {
				again := openLost(t, lost)
				if !sameJournal(again, numbered(told, again.Number)) || again.Number < 5 || again.Number > told.Number {
					t.Fatalf("OpenJournal(%s) = %s, and was %s", tell(lost), tellJournal(again), tellJournal(told))
				}
			}
		}
	}
}

func TestJournalActsRefuses(t *testing.T) {
	old := handOld()
	now := journal(4, 6, 1, logOf(7, 3, none(3), command(6, "y")))
	text := plainJournalText(old)
	d := diskWith(old)
	if _, _, ok := impl.JournalActs(d, old, now); !ok {
		t.Fatal("JournalActs is false of right ones")
	}
	for _, wrong := range wrongJournals() {
		refuseJournalActs(t, d, wrong, now)
		refuseJournalActs(t, d, old, wrong)
		refuseJournalActs(t, d, wrong, wrong)
	}
	for _, wrong := range []impl.Disk{
		disk(file("j4", text, -1)), disk(file("j4", text, len(text)+1)), disk(file("j4", text, 0), file("j4", text, 0)), disk(file("j4", text, 0), file("a", "", 0)), disk(file("", "", 0), file("j4", text, 0)),
		disk(file("j4", text, 0), file("k", "x", 2)), disk(file("j4", text, 0), file("k", longText(20001), 0)), disk(append([]impl.File{file("j4", text, 0)}, manyFiles(30).Files...)...),
	} {
		refuseJournalActs(t, wrong, old, now)
		refuseJournalActs(t, wrong, old, old)
		refuseJournalActs(t, wrong, old, journal(4, 5, 2, logOf(7, 3)))
	}
	others := []impl.Journal{numbered(old, 3), numbered(old, 5), journal(4, 6, 2, old.Log), journal(4, 4, 2, old.Log), journal(4, 5, 1, old.Log), journal(4, 5, 3, old.Log)}
	for _, l := range []impl.Log{
		{}, logOf(8, 3, old.Log.Entries...), logOf(6, 3, old.Log.Entries...), logOf(7, 2, old.Log.Entries...), logOf(7, 3, old.Log.Entries[:2]...), logOf(7, 3, append(slices.Clone(old.Log.Entries), none(5))...),
		logOf(7, 3, none(3), command(4, "y"), conf(5, "\x01\x03")), logOf(7, 3, none(3), command(4, "x"), conf(6, "\x01\x03")), logOf(7, 3, command(3, ""), command(4, "x"), conf(5, "\x01\x03")),
	} {
		others = append(others, journal(4, 5, 2, l))
	}
	for _, other := range others {
		// the file tells another journal than old, or is not there
		refuseJournalActs(t, d, other, now)
		refuseJournalActs(t, d, other, other)
		refuseJournalActs(t, d, other, old)
		refuseJournalActs(t, diskWith(other), old, now)
		refuseJournalActs(t, diskWith(other), old, old)
		refuseJournalActs(t, diskWith(other), old, other)
	}
	for _, left := range append(strangeBehind(), beginFrame(7, 3), headFrame(6, 1), entryFrame(11, none(5))) {
		refuseJournalActs(t, disk(file("j4", text+left, 0)), old, now)
		refuseJournalActs(t, disk(file("j4", text+left, len(text))), old, old)
	}
	for cut := range len(text) {
		refuseJournalActs(t, disk(file("j4", text[:cut], cut)), old, now)
	}
	for _, d := range []impl.Disk{
		disk(), disk(file("a", text, 0)), disk(file("j", text, 0)), disk(file("J4", text, 0)), disk(file("j04", text, 0)), disk(file("j3", text, 0)), disk(file("j40", text, 0)), disk(file("4", text, 0)),
		disk(file("j4", "", 0)), disk(file("j4", headFrame(5, 2)+text, 0)), disk(file("j4", text[1:], 0)),
		disk(file("j+", "", 0), file("j4", text, 0)), disk(file("j+", text, len(text)), file("j4", text, 0)), disk(file("a", "", 0), file("j+", "torn", 2), file("j4", text, 0)),
	} {
		refuseJournalActs(t, d, old, now)
		refuseJournalActs(t, d, old, old)
		refuseJournalActs(t, d, old, journal(4, 0, 0, impl.Log{}))
	}
	// a journal without anything does not come of no file
	refuseJournalActs(t, disk(), impl.Journal{}, impl.Journal{})
	refuseJournalActs(t, disk(file("j0", "", 0)), impl.Journal{}, impl.Journal{})
}

// The last Number may go on in its file, but has no next one.
func TestJournalActsOfTheLastNumber(t *testing.T) {
	for _, number := range []int{997, 998, 999} {
		old := journal(number, 5, 2, logOf(7, 3, none(3), none(4)))
		d := diskWith(old)
		now := journal(number, 6, 1, logOf(7, 3, none(3), none(5)))
		wantJournalActs(t, d, old, old, nil, old, true)
		wantJournalActs(t, d, old, now, []impl.Act{add(fmt.Sprintf("j%d", number), headFrame(6, 1)+entryFrame(9, none(5))), keep(fmt.Sprintf("j%d", number))}, now, true)
		for _, now := range []impl.Journal{journal(number, 5, 2, logOf(7, 3)), journal(number, 5, 2, logOf(8, 3, none(4))), journal(0, 5, 2, logOf(7, 2, none(3), none(4)))} {
			acts, then, right := plainRenewal(number, now)
			if right != (number < 999) {
				t.Fatalf("the test's own acts of %d are %v", number, right)
			}
			wantJournalActs(t, d, old, now, acts, then, right)
		}
		long := sizedJournal(t, number, 401)
		acts, then, right := plainRenewal(number, long)
		wantJournalActs(t, diskWith(long), long, long, acts, then, right)
	}
}

// A new file takes the place of one that has its name already.
func TestJournalActsOverAnotherFile(t *testing.T) {
	old := journal(9, 5, 2, logOf(7, 3, none(3)))
	now := journal(9, 5, 2, logOf(8, 3))
	text := plainJournalText(old)
	d := disk(file("j10", "any", 1), file("j8", "x", 0), file("j9", text, 0))
	acts, then, ok := impl.JournalActs(d, old, now)
	behind := mustDo(t, d, acts)
	if want := disk(file("j10", plainJournalText(now), len(plainJournalText(now))), file("j8", "x", 0)); !ok || then.Number != 10 || !sameDisk(behind, want) {
		t.Errorf("%s comes, want %s", tell(behind), tell(want))
	}
}

// A new file needs a JournalText; frames that are put to the file that there is need none.
func TestJournalActsUpToMaxText(t *testing.T) {
	old := journal(8, 1, 1, logOf(2, 1, none(1)))
	d := diskWith(old)
	for _, bytes := range []int{19999, 20000, 20001, 20002, 30000} {
		now := sizedJournal(t, 8, bytes)
		acts, then, right := plainRenewal(8, now)
		if right != (bytes <= 20000) {
			t.Fatalf("the test's own acts with %d bytes are %v", bytes, right)
		}
		wantJournalActs(t, d, old, now, acts, then, right)
		if right {
			wantOpen(t, mustDo(t, d, acts), then, nil, true)
		}
	}
	full := sizedJournal(t, 8, 20000)
	begin := journal(8, 1, 1, logOf(0, 1))
	acts, then, ok := impl.JournalActs(diskWith(begin), begin, full)
	if !ok || len(acts) != 2 || !sameJournal(then, full) {
		t.Fatalf("JournalActs up to MaxText = %s, %v", tellActs(acts), ok)
	}
	wantOpen(t, mustDo(t, diskWith(begin), acts), full, nil, true)
	// the words name no false for frames that no file could take, so that they are told, and can't be done
	beyond := sizedJournal(t, 8, 20001)
	want, journal, _ := plainJournalActs(plainLengths(), diskWith(begin), begin, beyond)
	wantJournalActs(t, diskWith(begin), begin, beyond, want, journal, true)
	if _, n := impl.DoActs(diskWith(begin), want); n != 0 {
		t.Errorf("%d of the acts beyond MaxText can be done", n)
	}
}

func TestOpenJournalFixed(t *testing.T) {
	j := handOld()
	text := strings.Join(handJournals()[3].frames, "")
	wantOpen(t, disk(file("j4", text, len(text))), j, nil, true)
	wantOpen(t, disk(file("j4", text, 0)), j, nil, true)
	wantOpen(t, disk(file("j0", text, 0)), numbered(j, 0), nil, true)
	wantOpen(t, disk(file("j999", text, 0)), numbered(j, 999), nil, true)
	wantOpen(t, disk(file("a", "", 0), file("j", "", 0), file("j4", text, 3), file("s0", "x", 1)), j, nil, true)
	wantOpen(t, disk(file("j+", "", 0), file("j4", text, 0)), j, []impl.Act{drop("j+")}, true)
	wantOpen(t, disk(file("j+", text, len(text)), file("j4", text, 0)), j, []impl.Act{drop("j+")}, true)
	// the greatest number, not the last name
	wantOpen(t, disk(file("j10", text, 0), file("j9", "x", 0)), numbered(j, 10), []impl.Act{drop("j9")}, true)
	wantOpen(t, disk(file("j100", "", 0), file("j20", "", 0), file("j3", "", 0), file("j998", text, 0)), numbered(j, 998), []impl.Act{drop("j100"), drop("j20"), drop("j3")}, true)
	wantOpen(t, disk(file("a", "", 0), file("j+", "", 0), file("j0", "", 0), file("j10", text, 0), file("j2", "", 0), file("j9", "", 0), file("k1", "", 0)), numbered(j, 10), []impl.Act{drop("j+"), drop("j0"), drop("j2"), drop("j9")}, true)
	// a byte is left
	renewal := func(n int) []impl.Act {
		return []impl.Act{add("j+", text), keep("j+"), move("j+", fmt.Sprintf("j%d", n+1)), drop(fmt.Sprintf("j%d", n))}
	}
	wantOpen(t, disk(file("j4", text+"x", 0)), numbered(j, 5), renewal(4), true)
	wantOpen(t, disk(file("j998", text+"torn", 0)), numbered(j, 999), renewal(998), true)
	wantOpen(t, disk(file("j+", "old", 0), file("j4", text+"\x00", 0)), numbered(j, 5), append([]impl.Act{drop("j+")}, renewal(4)...), true)
	wantOpen(t, disk(file("j+", "old", 0), file("j1", text, 0), file("j3", "x", 0), file("j4", text+"\x00", 0)), numbered(j, 5), append([]impl.Act{drop("j+"), drop("j1"), drop("j3")}, renewal(4)...), true)
	for _, strange := range strangeBehind() {
		wantOpen(t, disk(file("j4", text+strange, 0)), numbered(j, 5), renewal(4), true)
		refuseOpen(t, disk(file("j999", text+strange, 0)))
	}
	// frames that have been told anew are one journal; with a byte left it is written short
	long := beginFrame(7, 3) + entryFrame(8, command(9, "gone")) + headFrame(1, 1) + text[8:]
	wantOpen(t, disk(file("j4", long, 0)), j, nil, true)
	wantOpen(t, disk(file("j4", long+"x", 0)), numbered(j, 5), renewal(4), true)
	bare := beginFrame(7, 3)
	wantOpen(t, disk(file("j4", bare, 0)), journal(4, 0, 0, logOf(7, 3)), nil, true)
	wantOpen(t, disk(file("j4", bare+"x", 0)), journal(5, 0, 0, logOf(7, 3)), []impl.Act{add("j+", bare+headFrame(0, 0)), keep("j+"), move("j+", "j5"), drop("j4")}, true)
}

// names that only look like one of a journal: they are no journal's, and are not dropped
func strangeNames() []string {
	return []string{"j", "j01", "j00", "j1000", "j-1", "j+1", "J1", "j1 ", " j1", "j 1", "j1x", "jj1", "1", "j1.", "j9999", "j001", "k1", "s1", "j1e2", "j0x1", "j１", "j1000000"}
}

func TestOpenJournalRefuses(t *testing.T) {
	text := plainJournalText(handOld())
	refuseOpen(t, disk())
	refuseOpen(t, disk(file("j+", text, len(text))))
	for _, name := range strangeNames() {
		refuseOpen(t, disk(file(name, text, len(text))))
	}
	for _, wrong := range wrongDisks() {
		refuseOpen(t, wrong)
		refuseOpen(t, disk(append([]impl.File{file("J", "", 0), file("j4", text, 0)}, wrong.Files...)...))
	}
	for _, wrong := range []impl.Disk{disk(file("j4", text, -1)), disk(file("j4", text, len(text)+1)), disk(file("j4", text, 0), file("j4", text, 0)), disk(file("j9", text, 0), file("j10", text, 0)), disk(file("j4", text, 0), file("j+", text, 0))} {
		refuseOpen(t, wrong)
	}
	// the greatest one counts, also when it is no journal and a lesser one is
	for _, bad := range []string{"", "torn", headFrame(5, 2), entryFrame(1, none(0)), headFrame(5, 2) + text, text[1:], beginFrame(1000001, 0), plainFrame("B\x00\x00\x00")} {
		refuseOpen(t, disk(file("j5", bad, 0)))
		refuseOpen(t, disk(file("j4", text, 0), file("j5", bad, 0)))
		refuseOpen(t, disk(file("j+", "", 0), file("j10", bad, 0), file("j4", text, 0)))
	}
	for cut := range 8 {
		refuseOpen(t, disk(file("j4", text[:cut], cut)))
	}
}

func TestOpenJournalPassesStrangeNames(t *testing.T) {
	j := handOld()
	text := plainJournalText(j)
	d := disk(file("j4", text+"x", 0))
	for _, name := range strangeNames() {
		if len(name) > 8 {
			t.Fatalf("the test's own name %q is too long", name)
		}
		d.Files = append(d.Files, file(name, text, 0))
	}
	slices.SortFunc(d.Files, func(f, g impl.File) int { return strings.Compare(f.Name, g.Name) })
	wantOpen(t, d, numbered(j, 5), []impl.Act{add("j+", text), keep("j+"), move("j+", "j5"), drop("j4")}, true)
}

// A journal whose text would be longer than MaxText, as its file has no H, can't be written anew.
func TestOpenJournalUpToMaxText(t *testing.T) {
	for _, bytes := range []int{19999, 20000, 20001, 20007} {
		j := sizedJournal(t, 4, bytes)
		j.Term, j.Vote = 0, 0
		frames := plainFrames(j)
		bare := frames[0] + strings.Join(frames[2:], "")
		wantOpen(t, disk(file("j4", bare, 0)), j, nil, true)
		acts, then, right := plainRenewal(4, j)
		if right != (bytes <= 20000) {
			t.Fatalf("the test's own acts with %d bytes are %v", bytes, right)
		}
		wantOpen(t, disk(file("j4", bare+"x", 0)), then, acts, right)
	}
}

// each number is found, whatever stands beside it
func TestOpenJournalOfEachNumber(t *testing.T) {
	text := plainJournalText(handOld())
	for n := range 1000 {
		d := disk(file(fmt.Sprintf("j%d", n), text, 0))
		want := []impl.Act{}
		for _, other := range []int{n / 10, n - 1, n - 100} {
			name := fmt.Sprintf("j%d", other)
			if _, there := plainFile(d, name); other >= 0 && other < n && !there {
				d.Files = append(d.Files, file(name, "any", 1))
			}
		}
		slices.SortFunc(d.Files, func(f, g impl.File) int { return strings.Compare(f.Name, g.Name) })
		for _, f := range d.Files {
			if f.Text == "any" {
				want = append(want, drop(f.Name))
			}
		}
		wantOpen(t, d, numbered(handOld(), n), want, true)
	}
}

// disks drawn of journals, torn ones and others, by the chapter's words
func TestDrawnJournalDisks(t *testing.T) {
	lengths := plainLengths()
	d := draw(777)
	counts := map[int]int{}
	for range 4000 {
		names := []string{"a", "j", "j+", "j0", "j01", "j1", "j10", "j11", "j1000", "j2", "j999", "s0"}
		var from impl.Disk
		for _, name := range names {
			if d.below(3) > 0 {
				continue
			}
			text := drawnFile(lengths, &d)
			from.Files = append(from.Files, file(name, text, d.below(len(text)+1)))
		}
		if d.below(30) == 0 {
			from.Files = append(from.Files, file("a", "", 0))
		}
		want, acts, right := plainOpenJournal(lengths, from)
		wantOpen(t, from, want, acts, right)
		if !right {
			counts[-1]++
			continue
		}
		counts[len(acts)]++
		behind := mustDo(t, from, acts)
		wantOpen(t, behind, want, nil, true)
		now := numbered(want, d.below(1000))
		switch d.below(4) {
		case 0:
			now.Vote = d.below(5)
		case 1:
			now.Log = drawnLog(&d)
		case 2:
			now.Log.Entries = append(now.Log.Entries[:d.below(len(now.Log.Entries)+1)], none(3))
		}
		// on the disk that was, too, where the file has bytes left or NameNew is there
		for _, on := range []impl.Disk{behind, from} {
			list, then, ok := plainJournalActs(lengths, on, want, now)
			wantJournalActs(t, on, want, now, list, then, ok)
			if ok {
				counts[100+len(list)]++
			} else {
				counts[99]++
			}
		}
	}
	for _, kind := range []int{-1, 0, 1, 2, 3, 4, 5, 6, 99, 100, 102, 104} {
		if counts[kind] < 20 {
			t.Errorf("the drawn disks came to %d %d times alone", kind, counts[kind])
		}
	}
}

func scribbleActs(acts []impl.Act) {
	all := acts[:cap(acts)]
	for at := range all {
		all[at] = impl.Act{Kind: -7, Name: "scribble", Text: "over", To: "all"}
	}
}

func roomyJournal(j impl.Journal) (impl.Journal, func() bool) {
	l, untouched := roomyLog(j.Log)
	return journal(j.Number, j.Term, j.Vote, l), untouched
}

// pairs of journals whose acts are all kinds of acts, and some that are refused
func memoryPairs(t *testing.T) [][2]impl.Journal {
	t.Helper()
	lively := livelyJournals()
	var pairs [][2]impl.Journal
	for _, old := range []int{0, 4, 8, 13, 15} {
		for _, now := range lively {
			pairs = append(pairs, [2]impl.Journal{lively[old], now})
		}
	}
	for _, wrong := range []impl.Journal{journal(1000, 1, 1, longLog(3, 1, 4)), journal(5, 1, 5, longLog(3, 1, 4)), journal(5, 1, 1, longLog(3, 1, 61)), journal(5, -1, 1, longLog(3, 1, 4))} {
		pairs = append(pairs, [2]impl.Journal{lively[8], wrong}, [2]impl.Journal{wrong, lively[8]})
	}
	return append(pairs, [2]impl.Journal{sizedJournal(t, 999, 401), lively[0]})
}

func TestJournalActsAreNewMemory(t *testing.T) {
	for _, pair := range memoryPairs(t) {
		d, diskUntouched := roomy(diskWith(pair[0]))
		old, oldUntouched := roomyJournal(pair[0])
		now, nowUntouched := roomyJournal(pair[1])
		look := func(what string) {
			t.Helper()
			if !diskUntouched() || !oldUntouched() || !nowUntouched() {
				t.Fatalf("%s: something of %s, %s is changed", what, tellJournal(pair[0]), tellJournal(pair[1]))
			}
		}
		first, firstThen, ok := impl.JournalActs(d, old, now)
		look("JournalActs")
		second, secondThen, again := impl.JournalActs(d, old, now)
		if ok != again || !slices.Equal(first, second) || !sameJournal(firstThen, secondThen) {
			t.Fatalf("JournalActs(%s, %s) is answered in another way again", tellJournal(old), tellJournal(now))
		}
		acts, then := slices.Clone(second), copyJournal(secondThen)
		scribbleActs(first)
		scribbleLog(firstThen.Log)
		look("an answer of JournalActs")
		if !slices.Equal(second, acts) || !sameJournal(secondThen, then) {
			t.Fatalf("two answers of JournalActs(%s, %s) share memory", tellJournal(old), tellJournal(now))
		}
		scribbleActs(second)
		if !sameJournal(secondThen, then) {
			t.Fatalf("two lists of an answer of JournalActs(%s, %s) share memory", tellJournal(old), tellJournal(now))
		}
		// where old and now are one, too
		if acts, then, ok := impl.JournalActs(d, old, old); ok {
			scribbleActs(acts)
			scribbleLog(then.Log)
			look("JournalActs of one journal")
		}
		impl.JournalOk(now)
		impl.JournalText(now)
		look("JournalText")
	}
}

func TestOpenJournalIsNewMemory(t *testing.T) {
	text := plainJournalText(handOld())
	for _, from := range append(append(rightDisks(), wrongDisks()...),
		disk(file("j4", text, 0)), disk(file("j+", "x", 0), file("j4", text+"x", 0)), disk(file("j+", "x", 0), file("j1", "x", 1), file("j4", text+"x", 0), file("s1", "", 0)), disk(file("j999", text+"x", 0))) {
		d, untouched := roomy(from)
		first, firstActs, ok := impl.OpenJournal(d)
		second, secondActs, again := impl.OpenJournal(d)
		if ok != again || !slices.Equal(firstActs, secondActs) || !sameJournal(first, second) || !untouched() {
			t.Fatalf("OpenJournal(%s) writes into it, or is answered in another way again", tell(from))
		}
		j, acts := copyJournal(second), slices.Clone(secondActs)
		scribbleActs(firstActs)
		scribbleLog(first.Log)
		if !slices.Equal(secondActs, acts) || !sameJournal(second, j) || !untouched() {
			t.Fatalf("answers of OpenJournal(%s) share memory", tell(from))
		}
		scribbleLog(second.Log)
		if !slices.Equal(secondActs, acts) || !untouched() {
			t.Fatalf("lists of an answer of OpenJournal(%s) share memory", tell(from))
		}
	}
	for _, j := range rightJournals()[:40] {
		text := plainJournalText(j)
		first, _, _ := impl.ReadJournal(j.Number, text)
		second, _, _ := impl.ReadJournal(j.Number, text)
		scribbleLog(first.Log)
		if !sameJournal(second, j) {
			t.Fatalf("answers of ReadJournal(%s) share memory", tellJournal(j))
		}
	}
}

func TestJournalTextsAreNewMemory(t *testing.T) {
	old := journal(4, 5, 2, logOf(7, 3, command(3, strings.Clone("one")), command(4, longText(200))))
	now := journal(4, 5, 1, logOf(7, 3, command(3, strings.Clone("one")), command(4, longText(201)), command(4, strings.Clone("three"))))
	short := journal(4, 5, 1, logOf(7, 3, command(3, strings.Clone("one"))))
	text := plainJournalText(old)
	d := disk(file(strings.Clone("j+"), text, 0), file(strings.Clone("j3"), text, 0), file(strings.Clone("j4"), text+"x", 0))
	clean := disk(file(strings.Clone("j4"), text, 0))
	var given []string
	for _, e := range slices.Concat(old.Log.Entries, now.Log.Entries, short.Log.Entries) {
		given = append(given, e.Data)
	}
	for _, f := range slices.Concat(d.Files, clean.Files) {
		given = append(given, f.Name, f.Text)
	}
	look := func(what string, j impl.Journal, acts []impl.Act) {
		t.Helper()
		if len(j.Log.Entries) == 0 {
			t.Errorf("%s answers no entry", what)
		}
		var texts []string
		for _, e := range j.Log.Entries {
			texts = append(texts, e.Data)
		}
		for _, a := range acts {
			texts = append(texts, a.Name, a.Text, a.To)
		}
		for _, got := range texts {
			for _, other := range given {
				if sharesBytes(got, other) {
					t.Errorf("%s answers bytes of an argument: %.8q", what, got)
				}
			}
		}
	}
	read, _, _ := impl.ReadJournal(4, text)
	look("ReadJournal", read, nil)
	opened, acts, _ := impl.OpenJournal(d)
	look("OpenJournal", opened, acts)
	opened, acts, _ = impl.OpenJournal(clean)
	look("OpenJournal", opened, acts)
	for _, next := range []impl.Journal{old, now, short} {
		acts, then, ok := impl.JournalActs(clean, old, next)
		if !ok {
			t.Fatalf("JournalActs to %s is false", tellJournal(next))
		}
		look("JournalActs", then, acts)
	}
}
