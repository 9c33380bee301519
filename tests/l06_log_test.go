package tests

import (
	"fmt"
	"math"
	"slices"
	"strings"
	"testing"

	"loop.example/g00188/impl"
)

func logOf(start, term int, entries ...impl.Entry) impl.Log {
	return impl.Log{Start: start, StartTerm: term, Entries: entries}
}

func none(term int) impl.Entry { return impl.Entry{Term: term, Kind: impl.EntryNone} }

func command(term int, data string) impl.Entry {
	return impl.Entry{Term: term, Kind: impl.EntryCommand, Data: data}
}

func conf(term int, data string) impl.Entry {
	return impl.Entry{Term: term, Kind: impl.EntryConf, Data: data}
}

func sameLog(a, b impl.Log) bool {
	return a.Start == b.Start && a.StartTerm == b.StartTerm && slices.Equal(a.Entries, b.Entries)
}

func copyLog(l impl.Log) impl.Log {
	return logOf(l.Start, l.StartTerm, slices.Clone(l.Entries)...)
}

func tellLog(l impl.Log) string {
	out := fmt.Sprintf("%d/%d with %d:", l.Start, l.StartTerm, len(l.Entries))
	for _, e := range l.Entries[:min(len(l.Entries), 5)] {
		out += fmt.Sprintf(" %d/%d/%.8q", e.Term, e.Kind, e.Data)
	}
	return out
}

// a log of n entries of all Kinds, no two commands the same, whose terms rise with each third one as far as they may
func longLog(start, term, n int) impl.Log {
	l := logOf(start, term)
	for at := range n {
		t := min(term+at/3, 100000)
		switch at % 5 {
		case 1:
			l.Entries = append(l.Entries, none(t))
		case 3:
			l.Entries = append(l.Entries, conf(t, handConfs()[at%15].text))
		default:
			l.Entries = append(l.Entries, command(t, fmt.Sprintf("%d@%d", at, start)))
		}
	}
	return l
}

func rightLogs() []impl.Log {
	list := []impl.Log{
		{},
		logOf(0, 100000),
		logOf(1000000, 0),
		logOf(1000000, 100000),
		logOf(999999, 100000, none(100000)),
		logOf(999940, 0, longLog(0, 0, 60).Entries...),
		logOf(0, 0, none(0)),
		logOf(0, 0, none(100000)),
		logOf(0, 0, command(0, "")),
		logOf(7, 3, none(3)),
		logOf(7, 3, none(4)),
		logOf(7, 3, conf(3, "\x01\x02\x03\x04"), command(3, longText(640)), none(3)),
		logOf(7, 3, none(3), none(99), none(100000)),
		logOf(1, 0, command(0, "same"), command(0, "same"), command(0, "same")),
		logOf(5, 100000, slices.Repeat([]impl.Entry{none(100000)}, 60)...),
		logOf(5, 2, slices.Repeat([]impl.Entry{command(2, longText(640))}, 60)...),
	}
	for _, n := range []int{1, 2, 3, 59, 60} {
		list = append(list, longLog(0, 0, n), longLog(41, 6, n), longLog(1000000-n, 1, n), longLog(12, 100000-n/6, n))
	}
	return list
}

// logs that are wrong in one thing alone
func wrongLogs() []impl.Log {
	var list []impl.Log
	for _, start := range []int{-1, -2, -60, 1000001, 1000002, 1<<32 + 1, -1<<32 + 1, math.MaxInt64, math.MaxInt64 - 1, math.MinInt64, math.MinInt64 + 1} {
		list = append(list, logOf(start, 1), logOf(start, 1, none(1)), logOf(start, 1, none(1), none(1)), logOf(start, 1, longLog(0, 1, 60).Entries...))
	}
	for _, term := range []int{-1, -2, 100001, 100002, 1000000, 1<<32 + 1, -1<<32 + 1, math.MaxInt64, math.MinInt64} {
		list = append(list, logOf(4, term), logOf(4, term, none(100000)), logOf(4, term, none(1)))
	}
	for _, n := range []int{61, 62, 120, 256, 316, 1000} {
		list = append(list, logOf(0, 1, slices.Repeat([]impl.Entry{none(1)}, n)...), logOf(9, 1, longLog(9, 1, n).Entries...))
	}
	// beyond the greatest index by one, and by more
	for _, n := range []int{1, 2, 59, 60} {
		list = append(list, longLog(1000001-n, 1, n), longLog(1000000, 1, n))
	}
	// an entry that is not right, at the beginning, between and at the end
	for _, e := range []impl.Entry{{}, {Term: 2}, {Term: 2, Kind: 4}, {Term: 2, Kind: -1}, {Term: 2, Kind: 257}, {Term: 2, Kind: 1, Data: "x"}, conf(2, ""), conf(2, "\x02\x01"), conf(2, "\x05"), command(2, longText(641))} {
		e.Term = 2
		list = append(list, logOf(4, 2, e), logOf(4, 2, e, none(2)), logOf(4, 2, none(2), e, none(2)), logOf(4, 2, none(2), none(2), e))
	}
	for _, term := range []int{-1, 100001, math.MaxInt64, math.MinInt64} {
		list = append(list, logOf(4, 0, none(term)), logOf(4, 0, none(0), none(term)))
	}
	// Terms that fall
	list = append(list,
		logOf(4, 1, none(0)), logOf(4, 100000, none(99999)), logOf(4, 2, none(1), none(2)), logOf(4, 2, none(1), none(3)), logOf(4, 9, none(8), none(8)),
		logOf(4, 0, none(1), none(0)), logOf(4, 0, none(3), none(2)), logOf(4, 0, none(1), none(2), none(1)), logOf(4, 0, none(2), none(1), none(2)), logOf(4, 0, none(2), none(1), none(1)),
	)
	for _, at := range []int{1, 30, 59} {
		l := longLog(4, 5, 60)
		l.Entries[at].Term = l.Entries[at-1].Term - 1
		list = append(list, l)
	}
	return list
}

func plainLogOk(l impl.Log) bool {
	if l.Start < 0 || l.Start > 1000000 || l.StartTerm < 0 || l.StartTerm > 100000 || len(l.Entries) > 60 || l.Start > 1000000-len(l.Entries) {
		return false
	}
	terms := []int{l.StartTerm}
	for _, e := range l.Entries {
		terms = append(terms, e.Term)
	}
	return slices.IsSorted(terms) && !slices.ContainsFunc(l.Entries, func(e impl.Entry) bool { return !plainEntryOk(e) })
}

// the entry of this index, by going through all of them
func plainEntryAt(l impl.Log, index int) (impl.Entry, bool) {
	at := l.Start
	for _, e := range l.Entries {
		at++
		if at == index && at > l.Start {
			return e, true
		}
	}
	return impl.Entry{}, false
}

func plainTerm(l impl.Log, index int) int {
	if index == l.Start {
		return l.StartTerm
	}
	if e, ok := plainEntryAt(l, index); ok {
		return e.Term
	}
	return -1
}

func plainPut(l impl.Log, index int, e impl.Entry) (impl.Log, bool) {
	put := logOf(l.Start, l.StartTerm)
	if !plainLogOk(l) || index < l.Start+1 || index > l.Start+len(l.Entries)+1 {
		return impl.Log{}, false
	}
	for at := l.Start + 1; at < index; at++ {
		ahead, _ := plainEntryAt(l, at)
		put.Entries = append(put.Entries, ahead)
	}
	put.Entries = append(put.Entries, e)
	if !plainLogOk(put) {
		return impl.Log{}, false
	}
	return put, true
}

func plainBehind(l impl.Log, base, term int) impl.Log {
	behind := logOf(base, term)
	_, entry := plainEntryAt(l, base)
	if !plainLogOk(l) || base != l.Start && !entry || plainTerm(l, base) != term {
		return behind
	}
	for at := base + 1; at <= l.Start+len(l.Entries); at++ {
		e, _ := plainEntryAt(l, at)
		behind.Entries = append(behind.Entries, e)
	}
	return behind
}

// whether both have all from the greater Start up to this index, with the same terms and entries
func plainlyShared(a, b impl.Log, index int) bool {
	from := max(a.Start, b.Start)
	for at := from; at <= index; at++ {
		term := plainTerm(a, at)
		if term < 0 || term != plainTerm(b, at) {
			return false
		}
		one, _ := plainEntryAt(a, at)
		two, _ := plainEntryAt(b, at)
		// of the greater Start one log has the term alone
		if at > from && one != two {
			return false
		}
	}
	return index >= from
}

func plainShared(a, b impl.Log) int {
	if !plainLogOk(a) || !plainLogOk(b) {
		return -1
	}
	for index := min(a.Start+len(a.Entries), b.Start+len(b.Entries)); index >= 0; index-- {
		if plainlyShared(a, b, index) {
			return index
		}
	}
	return -1
}

func lookAtPut(t *testing.T, l impl.Log, index int, e impl.Entry) {
	t.Helper()
	want, right := plainPut(l, index, e)
	if got, ok := impl.LogPut(l, index, e); !sameLog(got, want) || ok != right {
		t.Fatalf("LogPut(%s, %d, %d/%d/%.8q) = %s, %v, want %s, %v", tellLog(l), index, e.Term, e.Kind, e.Data, tellLog(got), ok, tellLog(want), right)
	}
}

func refusePut(t *testing.T, l impl.Log, index int, e impl.Entry) {
	t.Helper()
	if got, ok := impl.LogPut(l, index, e); ok || got.Start != 0 || got.StartTerm != 0 || len(got.Entries) != 0 {
		t.Errorf("LogPut(%s, %d, %d/%d/%.8q) = %s, %v, want nothing", tellLog(l), index, e.Term, e.Kind, e.Data, tellLog(got), ok)
	}
}

func wantBehind(t *testing.T, l impl.Log, base, term int, want impl.Log) {
	t.Helper()
	if got := impl.LogBehind(l, base, term); !sameLog(got, want) {
		t.Fatalf("LogBehind(%s, %d, %d) = %s, want %s", tellLog(l), base, term, tellLog(got), tellLog(want))
	}
}

func wantShared(t *testing.T, a, b impl.Log, want int) {
	t.Helper()
	if got := impl.Shared(a, b); got != want {
		t.Fatalf("Shared(%s; %s) = %d, want %d", tellLog(a), tellLog(b), got, want)
	}
	if got := impl.Shared(b, a); got != want {
		t.Fatalf("Shared(%s; %s) = %d, want %d", tellLog(b), tellLog(a), got, want)
	}
}

func TestLogConstants(t *testing.T) {
	if impl.MaxLog != 60 {
		t.Errorf("MaxLog %d, want 60", impl.MaxLog)
	}
}

func TestLogOk(t *testing.T) {
	for _, l := range rightLogs() {
		if !plainLogOk(l) {
			t.Fatalf("the test's own log is not right: %s", tellLog(l))
		}
		if !impl.LogOk(l) {
			t.Errorf("LogOk(%s) is false", tellLog(l))
		}
	}
	for _, l := range wrongLogs() {
		if plainLogOk(l) {
			t.Fatalf("the test's own log is not wrong: %s", tellLog(l))
		}
		if impl.LogOk(l) {
			t.Errorf("LogOk(%s) is true", tellLog(l))
		}
	}
}

// Each entry that is right or not as such makes a log right or not, wherever it stands.
func TestLogOkOfEachEntry(t *testing.T) {
	for _, term := range []int{0, 1, 127, 128, 100000} {
		for _, e := range rightEntries(term) {
			if !impl.LogOk(logOf(3, term, e)) || !impl.LogOk(logOf(3, 0, none(0), e, none(100000))) {
				t.Fatalf("LogOk with the entry %d/%d/%.8q is false", e.Term, e.Kind, e.Data)
			}
		}
	}
	for _, e := range wrongEntries() {
		if impl.LogOk(logOf(3, 0, e)) || impl.LogOk(logOf(3, 0, none(0), e)) || impl.LogOk(logOf(3, 0, e, none(100000))) {
			t.Fatalf("LogOk with the entry %d/%d/%.8q is true", e.Term, e.Kind, e.Data)
		}
	}
}

func TestLogLast(t *testing.T) {
	for _, c := range []struct {
		log         impl.Log
		index, term int
	}{
		{impl.Log{}, 0, 0},
		{logOf(0, 5), 0, 5},
		{logOf(9, 0), 9, 0},
		{logOf(1000000, 100000), 1000000, 100000},
		{logOf(0, 0, none(0)), 1, 0},
		{logOf(0, 0, none(4)), 1, 4},
		{logOf(7, 3, none(3), none(4), command(6, "x")), 10, 6},
		{logOf(999999, 1, none(100000)), 1000000, 100000},
		{longLog(40, 2, 60), 100, 21},
		// nothing asks for a right log
		{logOf(-3, -2), -3, -2},
		{logOf(-3, 2, none(1)), -2, 1},
		{logOf(1000000, 2, none(1)), 1000001, 1},
		{logOf(5, 9, none(8), impl.Entry{Term: -7, Kind: 9, Data: "x"}), 7, -7},
		{logOf(5, 1, slices.Repeat([]impl.Entry{none(1)}, 61)...), 66, 1},
		{logOf(math.MinInt64, math.MaxInt64), math.MinInt64, math.MaxInt64},
		{logOf(math.MinInt64, 1, none(math.MinInt64)), math.MinInt64 + 1, math.MinInt64},
		{logOf(math.MaxInt64, 1), math.MaxInt64, 1},
		{logOf(math.MaxInt64-1, 1, none(2)), math.MaxInt64, 2},
	} {
		if index, term := impl.LogLast(c.log); index != c.index || term != c.term {
			t.Errorf("LogLast(%s) = %d, %d, want %d, %d", tellLog(c.log), index, term, c.index, c.term)
		}
	}
}

func TestLogTermFixed(t *testing.T) {
	l := logOf(7, 3, none(3), none(4), command(6, "x"))
	for index, want := range map[int]int{
		7: 3, 8: 3, 9: 4, 10: 6, 6: -1, 11: -1, 12: -1, 0: -1, 1: -1, 3: -1, -1: -1, -7: -1, -8: -1, 1000000: -1, 1<<32 + 8: -1, -1<<32 + 8: -1,
		math.MaxInt64: -1, math.MinInt64: -1, math.MinInt64 + 7: -1, math.MinInt64 + 8: -1, math.MinInt64 + 10: -1,
	} {
		if got := impl.LogTerm(l, index); got != want {
			t.Errorf("LogTerm(%s, %d) = %d, want %d", tellLog(l), index, got, want)
		}
	}
	for _, c := range []struct {
		log         impl.Log
		index, want int
	}{
		{impl.Log{}, 0, 0},
		{impl.Log{}, 1, -1},
		{impl.Log{}, -1, -1},
		{logOf(0, 9), 0, 9},
		{logOf(1000000, 100000), 1000000, 100000},
		{logOf(1000000, 100000), 1000001, -1},
		{logOf(1000000, 100000), 999999, -1},
	} {
		if got := impl.LogTerm(c.log, c.index); got != c.want {
			t.Errorf("LogTerm(%s, %d) = %d, want %d", tellLog(c.log), c.index, got, c.want)
		}
	}
}

// Of each log, right or not, each index is its Start, that of an entry, or none; the last one has the term that LogLast tells.
func TestLogTermOfEachIndex(t *testing.T) {
	for _, l := range append(rightLogs(), wrongLogs()...) {
		indexes := []int{math.MinInt64, math.MinInt64 + 1, -2, -1, 0, 1, 2, 1000000, 1000001, math.MaxInt64 - 1, math.MaxInt64}
		for near := -3; near <= len(l.Entries)+3; near++ {
			indexes = append(indexes, l.Start+near)
		}
		for _, index := range indexes {
			if got, want := impl.LogTerm(l, index), plainTerm(l, index); got != want {
				t.Fatalf("LogTerm(%s, %d) = %d, want %d", tellLog(l), index, got, want)
			}
		}
		last, term := impl.LogLast(l)
		if last != l.Start+len(l.Entries) || last >= l.Start && impl.LogTerm(l, last) != term {
			t.Fatalf("LogLast(%s) = %d, %d, whose LogTerm is %d", tellLog(l), last, term, impl.LogTerm(l, last))
		}
	}
}

func TestLogPutFixed(t *testing.T) {
	l := logOf(7, 3, none(3), command(4, "four"), command(6, "six"))
	for _, c := range []struct {
		index int
		entry impl.Entry
		want  impl.Log
	}{
		{8, none(3), logOf(7, 3, none(3))},
		{8, command(100000, "x"), logOf(7, 3, command(100000, "x"))},
		{9, none(3), logOf(7, 3, none(3), none(3))},
		{9, command(4, "four"), logOf(7, 3, none(3), command(4, "four"))},
		{9, conf(5, "\x01"), logOf(7, 3, none(3), conf(5, "\x01"))},
		{10, none(4), logOf(7, 3, none(3), command(4, "four"), none(4))},
		{10, none(7), logOf(7, 3, none(3), command(4, "four"), none(7))},
		{11, none(6), logOf(7, 3, none(3), command(4, "four"), command(6, "six"), none(6))},
		{11, command(9, longText(640)), logOf(7, 3, none(3), command(4, "four"), command(6, "six"), command(9, longText(640)))},
	} {
		if got, ok := impl.LogPut(l, c.index, c.entry); !ok || !sameLog(got, c.want) {
			t.Errorf("LogPut(.., %d, ..) = %s, %v, want %s", c.index, tellLog(got), ok, tellLog(c.want))
		}
	}
	got, ok := impl.LogPut(impl.Log{}, 1, none(0))
	if !ok || !sameLog(got, logOf(0, 0, none(0))) {
		t.Errorf("LogPut of the first entry = %s, %v", tellLog(got), ok)
	}
}

// What is put has its index, all ahead of it stays, and all that was there and behind is gone.
func TestLogPutAtEachIndex(t *testing.T) {
	for _, l := range rightLogs() {
		last := l.Start + len(l.Entries)
		for index := l.Start + 1; index <= last+1; index++ {
			ahead := plainTerm(l, index-1)
			for _, e := range []impl.Entry{none(ahead), none(100000), conf(ahead, "\x02\x04"), command(min(ahead+1, 100000), "put"), command(ahead, ""), command(100000, longText(640))} {
				put, ok := impl.LogPut(l, index, e)
				if room := index <= 1000000 && index-l.Start <= 60; ok != room {
					t.Fatalf("LogPut(%s, %d, Term %d) is %v", tellLog(l), index, e.Term, ok)
				}
				lookAtPut(t, l, index, e)
				if !ok {
					continue
				}
				if at, term := impl.LogLast(put); at != index || term != e.Term || !impl.LogOk(put) || impl.LogTerm(put, index+1) != -1 {
					t.Fatalf("LogPut(%s, %d, ..) ends at %d, %d, or is not right", tellLog(l), index, at, term)
				}
				if put.Start != l.Start || put.StartTerm != l.StartTerm || put.Entries[index-l.Start-1] != e || !slices.Equal(put.Entries[:index-l.Start-1], l.Entries[:index-l.Start-1]) {
					t.Fatalf("LogPut(%s, %d, ..) = %s", tellLog(l), index, tellLog(put))
				}
			}
		}
	}
}

// Entries that are put one behind the other are the log; an entry that is put again in its place takes all behind it away.
func TestLogPutBuildsALog(t *testing.T) {
	whole := longLog(41, 6, 60)
	l := logOf(41, 6)
	for at, e := range whole.Entries {
		put, ok := impl.LogPut(l, 42+at, e)
		if want := logOf(41, 6, whole.Entries[:at+1]...); !ok || !sameLog(put, want) {
			t.Fatalf("LogPut of the entry %d = %s, %v", at, tellLog(put), ok)
		}
		l = put
	}
	refusePut(t, l, 102, none(100000))
	for at := 59; at >= 0; at-- {
		put, ok := impl.LogPut(l, 42+at, whole.Entries[at])
		if want := logOf(41, 6, whole.Entries[:at+1]...); !ok || !sameLog(put, want) {
			t.Fatalf("LogPut of the entry %d once more = %s, %v", at, tellLog(put), ok)
		}
	}
}

func TestLogPutRefusesIndexes(t *testing.T) {
	for _, l := range rightLogs() {
		last := l.Start + len(l.Entries)
		for _, index := range []int{
			l.Start, l.Start - 1, l.Start - 2, last + 2, last + 3, last + 60, -1, -2, -l.Start - 1, 1<<32 + l.Start + 1, -1<<32 + l.Start + 1,
			1000001, 1000002, math.MaxInt64, math.MaxInt64 - 1, math.MinInt64, math.MinInt64 + 1, math.MinInt64 + l.Start + 1, 0,
		} {
			refusePut(t, l, index, none(100000))
			refusePut(t, l, index, command(100000, "x"))
		}
	}
}

func TestLogPutRefusesEntries(t *testing.T) {
	logs := []impl.Log{{}, logOf(7, 0, none(0)), logOf(7, 0, none(0), none(0), none(0)), logOf(3, 0, slices.Repeat([]impl.Entry{command(0, "x")}, 60)...)}
	for _, l := range logs {
		for _, e := range wrongEntries() {
			for index := l.Start; index <= l.Start+len(l.Entries)+2; index += 1 + len(l.Entries)/10 {
				refusePut(t, l, index, e)
			}
		}
	}
}

func TestLogPutRefusesTermsThatFall(t *testing.T) {
	l := logOf(7, 3, none(3), command(5, "x"), command(5, "y"), none(100000))
	for index, ahead := range map[int]int{8: 3, 9: 3, 10: 5, 11: 5, 12: 100000} {
		for _, term := range []int{0, 1, 2, ahead - 2, ahead - 1} {
			refusePut(t, l, index, none(term))
			refusePut(t, l, index, command(term, "x"))
		}
		if _, ok := impl.LogPut(l, index, none(ahead)); !ok {
			t.Errorf("LogPut at %d with the Term ahead, %d, is false", index, ahead)
		}
	}
	refusePut(t, logOf(0, 1), 1, none(0))
	refusePut(t, logOf(0, 100000), 1, none(99999))
}

func TestLogPutAtTheLimits(t *testing.T) {
	full := longLog(9, 1, 60)
	refusePut(t, full, 70, none(100000))
	for _, c := range []struct {
		log   impl.Log
		index int
		right bool
	}{
		{full, 69, true},
		{full, 70, false},
		{longLog(9, 1, 59), 69, true},
		{longLog(999940, 1, 60), 1000000, true},
		{longLog(999940, 1, 60), 1000001, false},
		{longLog(999941, 1, 59), 1000000, true},
		{longLog(999941, 1, 59), 1000001, false},
		{longLog(999940, 1, 59), 1000000, true},
		{longLog(999999, 1, 1), 1000000, true},
		{longLog(999999, 1, 1), 1000001, false},
		{logOf(999999, 1), 1000000, true},
		{logOf(1000000, 1), 1000001, false},
	} {
		lookAtPut(t, c.log, c.index, none(100000))
		if _, ok := impl.LogPut(c.log, c.index, none(100000)); ok != c.right {
			t.Errorf("LogPut(%s, %d, ..) is %v", tellLog(c.log), c.index, ok)
		}
	}
}

func TestLogPutRefusesWrongLogs(t *testing.T) {
	for _, l := range wrongLogs() {
		for _, near := range []int{-1, 0, 1, 2, 3, len(l.Entries), len(l.Entries) + 1, len(l.Entries) + 2} {
			refusePut(t, l, l.Start+near, none(100000))
			refusePut(t, l, l.Start+near, none(2))
			refusePut(t, l, l.Start+near, impl.Entry{})
		}
		for _, index := range []int{-1, 0, 1, 5, 1000000, math.MaxInt64, math.MinInt64} {
			refusePut(t, l, index, none(100000))
		}
	}
}

func TestLogBehindFixed(t *testing.T) {
	l := logOf(7, 3, none(3), command(4, "four"), command(6, "six"))
	wantBehind(t, l, 7, 3, l)
	wantBehind(t, l, 8, 3, logOf(8, 3, command(4, "four"), command(6, "six")))
	wantBehind(t, l, 9, 4, logOf(9, 4, command(6, "six")))
	wantBehind(t, l, 10, 6, logOf(10, 6))
	wantBehind(t, l, 6, 3, logOf(6, 3))
	wantBehind(t, l, 11, 6, logOf(11, 6))
	wantBehind(t, l, 8, 4, logOf(8, 4))
	wantBehind(t, l, 7, 2, logOf(7, 2))
	wantBehind(t, l, 11, -1, logOf(11, -1))
	wantBehind(t, l, -5, 900000, logOf(-5, 900000))
	wantBehind(t, impl.Log{}, 0, 0, impl.Log{})
	wantBehind(t, impl.Log{}, 0, 1, logOf(0, 1))
	wantBehind(t, impl.Log{}, 1, 0, logOf(1, 0))
}

// A log behind one of its indexes begins there, and has the same entries, the same terms and the same end.
func TestLogBehindEachIndex(t *testing.T) {
	for _, l := range rightLogs() {
		last, lastTerm := impl.LogLast(l)
		for base := l.Start; base <= last; base++ {
			term := plainTerm(l, base)
			got := impl.LogBehind(l, base, term)
			if got.Start != base || got.StartTerm != term || !impl.LogOk(got) {
				t.Fatalf("LogBehind(%s, %d, %d) begins at %d, %d, or is not right", tellLog(l), base, term, got.Start, got.StartTerm)
			}
			if index, at := impl.LogLast(got); index != last || at != lastTerm {
				t.Fatalf("LogBehind(%s, %d, %d) ends at %d, %d", tellLog(l), base, term, index, at)
			}
			for index := base; index <= last; index++ {
				one, _ := plainEntryAt(l, index)
				two, _ := plainEntryAt(got, index)
				if index > base && one != two || impl.LogTerm(got, index) != impl.LogTerm(l, index) {
					t.Fatalf("LogBehind(%s, %d, %d) has another entry at %d", tellLog(l), base, term, index)
				}
			}
			if impl.LogTerm(got, base-1) != -1 || impl.LogTerm(got, last+1) != -1 {
				t.Fatalf("LogBehind(%s, %d, %d) has too much: %s", tellLog(l), base, term, tellLog(got))
			}
			wantBehind(t, l, base, term, plainBehind(l, base, term))
			wantShared(t, l, got, last)
		}
	}
}

// behind an index, and behind a further one, is behind the further one
func TestLogBehindTwice(t *testing.T) {
	l := longLog(41, 6, 60)
	for one := 41; one <= 101; one++ {
		for two := one; two <= 101; two++ {
			once := impl.LogBehind(l, two, plainTerm(l, two))
			wantBehind(t, impl.LogBehind(l, one, plainTerm(l, one)), two, plainTerm(l, two), once)
		}
	}
}

func TestLogBehindWithoutEntries(t *testing.T) {
	for _, l := range rightLogs() {
		last := l.Start + len(l.Entries)
		// a base that it has not, also with the term that LogTerm tells of it
		for _, base := range []int{l.Start - 1, l.Start - 2, last + 1, last + 2, -1, -last - 1, 1000001, 1<<32 + last, -1<<32 + last, math.MaxInt64, math.MinInt64, math.MinInt64 + last} {
			for _, term := range []int{-1, 0, l.StartTerm, plainTerm(l, last), 100000, 100001, math.MaxInt64, math.MinInt64} {
				wantBehind(t, l, base, term, logOf(base, term))
			}
		}
		// a term that is not its term
		for base := l.Start; base <= last; base++ {
			its := plainTerm(l, base)
			for _, term := range []int{-1, its - 1, its + 1, -its - 1, 1<<32 + its, math.MaxInt64, math.MinInt64} {
				wantBehind(t, l, base, term, logOf(base, term))
			}
		}
	}
	for _, l := range wrongLogs() {
		for near := -1; near <= len(l.Entries)+1; near += 1 + len(l.Entries)/20 {
			base := l.Start + near
			for _, term := range []int{-1, 0, 1, 2, plainTerm(l, base)} {
				wantBehind(t, l, base, term, logOf(base, term))
			}
		}
		wantBehind(t, l, l.Start, l.StartTerm, logOf(l.Start, l.StartTerm))
	}
}

func TestSharedFixed(t *testing.T) {
	a := logOf(7, 3, none(3), command(4, "four"), command(6, "six"))
	for _, c := range []struct {
		other impl.Log
		want  int
	}{
		// the same, a beginning of it, or more
		{a, 10},
		{logOf(7, 3, none(3), command(4, "four")), 9},
		{logOf(7, 3, none(3)), 8},
		{logOf(7, 3), 7},
		{logOf(7, 3, none(3), command(4, "four"), command(6, "six"), none(6)), 10},
		// another term, Kind or Data
		{logOf(7, 3, none(4), command(4, "four"), command(6, "six")), 7},
		{logOf(7, 3, none(3), command(5, "four"), command(6, "six")), 8},
		{logOf(7, 3, none(3), command(4, "four"), command(7, "six")), 9},
		{logOf(7, 3, command(3, ""), command(4, "four"), command(6, "six")), 7},
		{logOf(7, 3, none(3), command(4, "five"), command(6, "six")), 8},
		{logOf(7, 3, none(3), command(4, "four"), command(6, "six ")), 9},
		{logOf(7, 3, none(3), none(4), command(6, "six")), 8},
		// beginning at other places
		{logOf(8, 3, command(4, "four"), command(6, "six")), 10},
		{logOf(9, 4, command(6, "six")), 10},
		{logOf(10, 6), 10},
		{logOf(10, 6, none(6)), 10},
		{logOf(9, 4), 9},
		{logOf(8, 3), 8},
		{logOf(8, 3, command(4, "else"), command(6, "six")), 8},
		{logOf(6, 1, none(3), none(3), command(4, "four"), command(6, "six")), 10},
		{logOf(5, 1, command(2, "x"), none(3), none(3), command(4, "four"), command(6, "s")), 9},
		{logOf(6, 1, command(3, "any")), 7},
		// another term at the greater Start
		{logOf(7, 2, none(3), command(4, "four"), command(6, "six")), -1},
		{logOf(8, 4, command(4, "four"), command(6, "six")), -1},
		{logOf(10, 5), -1},
		{logOf(6, 1, none(2), none(3), command(4, "four"), command(6, "six")), -1},
		// no index in common
		{logOf(11, 6), -1},
		{logOf(11, 6, none(6)), -1},
		{logOf(6, 3), -1},
		{logOf(5, 3, none(3)), -1},
		{impl.Log{}, -1},
		{logOf(1000000, 6), -1},
	} {
		wantShared(t, a, c.other, c.want)
	}
	wantShared(t, impl.Log{}, impl.Log{}, 0)
	wantShared(t, impl.Log{}, logOf(0, 1), -1)
	wantShared(t, logOf(0, 1), logOf(0, 1, none(1)), 0)
	wantShared(t, logOf(1000000, 9), logOf(1000000, 9), 1000000)
	wantShared(t, logOf(1000000, 9), logOf(999999, 9, none(9)), 1000000)
}

// an entry with the same Term, and the same Data as far as may be
func ofAnotherKind(e impl.Entry) impl.Entry {
	if e.Kind == impl.EntryCommand {
		return conf(e.Term, "\x01")
	}
	return command(e.Term, e.Data)
}

// Two logs that begin at any places of one log, and part at each place of it, in a term, a Kind or Data.
func TestSharedPartsAtEachPlace(t *testing.T) {
	whole := longLog(41, 6, 60)
	wantShared(t, whole, whole, 101)
	for part := range 60 {
		e := whole.Entries[part]
		for _, other := range []impl.Entry{none(100000), command(e.Term, e.Data+"!"), ofAnotherKind(e)} {
			if other == e || !plainEntryOk(other) {
				t.Fatalf("the test's own entry at %d is not another one: %v", part, other)
			}
			turned := copyLog(whole)
			turned.Entries[part] = other
			for at := part + 1; at < 60; at++ {
				turned.Entries[at].Term = max(turned.Entries[at].Term, other.Term)
			}
			wantShared(t, whole, turned, 41+part)
			for begin := 0; begin <= part; begin += 7 {
				ours := logOf(41+begin, plainTerm(whole, 41+begin), whole.Entries[begin:]...)
				wantShared(t, ours, turned, 41+part)
				wantShared(t, ours, logOf(turned.Start, turned.StartTerm, turned.Entries[:part]...), 41+part)
				theirs := logOf(41+begin/2, plainTerm(turned, 41+begin/2), turned.Entries[begin/2:]...)
				wantShared(t, ours, theirs, 41+part)
			}
		}
	}
}

// beginnings of one log, and ends of it: what they have in common is all that both have
func TestSharedOfPieces(t *testing.T) {
	whole := longLog(0, 0, 20)
	piece := func(from, upto int) impl.Log {
		return logOf(from, plainTerm(whole, from), whole.Entries[from:upto]...)
	}
	for from := 0; from <= 20; from++ {
		for upto := from; upto <= 20; upto++ {
			for begin := 0; begin <= 20; begin++ {
				for end := begin; end <= 20; end++ {
					want := min(upto, end)
					if want < max(from, begin) {
						want = -1
					}
					wantShared(t, piece(from, upto), piece(begin, end), want)
				}
			}
		}
	}
}

func TestSharedOfWrongLogs(t *testing.T) {
	for _, wrong := range wrongLogs() {
		wantShared(t, wrong, wrong, -1)
		for _, right := range rightLogs() {
			wantShared(t, wrong, right, -1)
		}
		// a right log that has the same beginning, as far as there is one
		first := wrong.Entries[:min(len(wrong.Entries), 1)]
		wantShared(t, wrong, logOf(wrong.Start, wrong.StartTerm), -1)
		wantShared(t, wrong, logOf(wrong.Start, wrong.StartTerm, first...), -1)
	}
	// of two wrong ones, too
	wantShared(t, logOf(-1, 1), logOf(-1, 1), -1)
	wantShared(t, logOf(3, -1), logOf(3, -1), -1)
}

// all logs with a Start of at most 2, terms of at most 2, and at most three entries of two kinds
func smallLogs() []impl.Log {
	letters := []impl.Entry{none(0), none(1), none(2), command(0, "a"), command(1, "a"), command(2, "a")}
	var list []impl.Log
	for _, places := range listsOf([]int{0, 1, 2, 3, 4, 5}, 3) {
		var entries []impl.Entry
		for _, at := range places {
			entries = append(entries, letters[at])
		}
		for start := range 3 {
			for term := range 3 {
				list = append(list, logOf(start, term, entries...))
			}
		}
	}
	return list
}

func TestSmallLogs(t *testing.T) {
	puts := []impl.Entry{none(0), none(1), command(1, "b"), command(2, "a"), none(3), {Term: 1, Kind: 4}, {Term: -1, Kind: 1}, {}}
	right := 0
	for _, l := range smallLogs() {
		ok := plainLogOk(l)
		if impl.LogOk(l) != ok {
			t.Fatalf("LogOk(%s) = %v", tellLog(l), !ok)
		}
		if ok {
			right++
		}
		for index := -2; index <= 8; index++ {
			if got := impl.LogTerm(l, index); got != plainTerm(l, index) {
				t.Fatalf("LogTerm(%s, %d) = %d", tellLog(l), index, got)
			}
			for _, e := range puts {
				lookAtPut(t, l, index, e)
			}
			for term := -1; term <= 3; term++ {
				wantBehind(t, l, index, term, plainBehind(l, index, term))
			}
		}
	}
	if right != 525 {
		t.Errorf("%d small logs are right, want 525", right)
	}
}

func TestSharedOfSmallLogs(t *testing.T) {
	var right, some []impl.Log
	for at, l := range smallLogs() {
		if plainLogOk(l) {
			right = append(right, l)
		}
		if at%37 == 0 {
			some = append(some, l)
		}
	}
	told := map[int]int{}
	for _, a := range right {
		for _, b := range append(right, some...) {
			want := plainShared(a, b)
			told[want]++
			wantShared(t, a, b, want)
		}
	}
	for want := -1; want <= 5; want++ {
		if told[want] == 0 {
			t.Errorf("no two small logs share %d", want)
		}
	}
}

func drawnLog(d *draw) impl.Log {
	l := longLog(d.below(5), d.below(3), d.below(12))
	for at := range l.Entries {
		switch d.below(12) {
		case 0:
			l.Entries[at].Term++
		case 1:
			l.Entries[at] = command(l.Entries[at].Term, "drawn")
		}
	}
	return l
}

func TestDrawnLogs(t *testing.T) {
	d := draw(6)
	right := 0
	for range 30000 {
		a := drawnLog(&d)
		b := copyLog(a)
		for range d.below(4) {
			index := b.Start + d.below(len(b.Entries)+2)
			e := []impl.Entry{none(plainTerm(b, index-1)), command(d.below(6), "put"), conf(d.below(6), "\x01"), {Term: 1}}[d.below(4)]
			lookAtPut(t, b, index, e)
			if put, ok := impl.LogPut(b, index, e); ok {
				b = put
			}
		}
		base := b.Start + d.below(len(b.Entries)+2)
		wantBehind(t, b, base, plainTerm(b, base), plainBehind(b, base, plainTerm(b, base)))
		c := impl.LogBehind(b, base, plainTerm(b, base))
		wantShared(t, a, b, plainShared(a, b))
		wantShared(t, a, c, plainShared(a, c))
		if impl.LogOk(a) != plainLogOk(a) || impl.LogOk(b) != plainLogOk(b) {
			t.Fatalf("LogOk(%s) = %v, LogOk(%s) = %v", tellLog(a), impl.LogOk(a), tellLog(b), impl.LogOk(b))
		}
		if impl.LogOk(a) {
			right++
		}
	}
	if right < 10000 || right > 29000 {
		t.Errorf("%d of the drawn logs were right", right)
	}
}

// a log with room behind its entries, and a look at whether all of it is as it was
func roomyLog(l impl.Log) (impl.Log, func() bool) {
	entries := append(make([]impl.Entry, 0, len(l.Entries)+70), l.Entries...)
	room := entries[:cap(entries)]
	for at := len(entries); at < len(room); at++ {
		room[at] = command(100000, "room")
	}
	before := slices.Clone(room)
	return logOf(l.Start, l.StartTerm, entries...), func() bool { return slices.Equal(room, before) }
}

func scribbleLog(l impl.Log) {
	all := l.Entries[:cap(l.Entries)]
	for at := range all {
		all[at] = impl.Entry{Term: -7, Kind: -7, Data: "scribble"}
	}
}

func TestLogsAreNewMemory(t *testing.T) {
	for _, from := range append(rightLogs(), wrongLogs()...) {
		l, untouched := roomyLog(from)
		other, otherUntouched := roomyLog(from)
		if cap(l.Entries) < len(l.Entries)+70 {
			t.Fatal("the test's own log has no room")
		}
		last := l.Start + len(l.Entries)
		step := 1 + len(l.Entries)/8
		for index := l.Start; index <= last+1 && index >= l.Start; index += step {
			e := command(100000, "put")
			first, ok := impl.LogPut(l, index, e)
			second, again := impl.LogPut(l, index, e)
			want := copyLog(second)
			scribbleLog(first)
			if ok != again || !sameLog(second, want) || !untouched() {
				t.Fatalf("LogPut(%s, %d, ..) shares memory", tellLog(from), index)
			}
			third := impl.LogBehind(l, index, plainTerm(l, index))
			fourth := impl.LogBehind(l, index, plainTerm(l, index))
			want = copyLog(fourth)
			scribbleLog(third)
			if !sameLog(fourth, want) || !untouched() {
				t.Fatalf("LogBehind(%s, %d, ..) shares memory", tellLog(from), index)
			}
			// what is put into an answer stays in the one that comes of it
			scribbleLog(second)
			scribbleLog(fourth)
			impl.LogTerm(l, index)
			if !untouched() {
				t.Fatalf("an answer of %s at %d shares memory", tellLog(from), index)
			}
		}
		ok := impl.LogOk(l)
		index, term := impl.LogLast(l)
		shared := impl.Shared(l, other)
		if !untouched() || !otherUntouched() {
			t.Fatalf("something is written into %s", tellLog(from))
		}
		if i, at := impl.LogLast(from); impl.LogOk(from) != ok || i != index || at != term || impl.Shared(from, from) != shared || impl.Shared(l, l) != shared {
			t.Fatalf("%s is answered in another way again", tellLog(from))
		}
	}
}

// An answer that is put into, or cut, once more leaves the one that it came from as it was.
func TestLogsInARow(t *testing.T) {
	base, _ := impl.LogPut(longLog(3, 1, 10), 14, none(9))
	kept := copyLog(base)
	var answers, copies []impl.Log
	for index := 4; index <= 15; index++ {
		put, ok := impl.LogPut(base, index, command(100000, "row"))
		if !ok {
			t.Fatalf("LogPut at %d is false", index)
		}
		more, _ := impl.LogPut(put, index+1, command(100000, "more"))
		behind := impl.LogBehind(base, index, plainTerm(base, index))
		answers = append(answers, put, more, behind)
		copies = append(copies, copyLog(put), copyLog(more), copyLog(behind))
	}
	for at := range answers {
		if !sameLog(answers[at], copies[at]) || !sameLog(base, kept) {
			t.Fatalf("the answer %d is %s, and was %s", at, tellLog(answers[at]), tellLog(copies[at]))
		}
	}
	for at := range answers {
		scribbleLog(answers[at])
		for behind := at + 1; behind < len(answers); behind++ {
			if !sameLog(answers[behind], copies[behind]) || !sameLog(base, kept) {
				t.Fatalf("the answers %d and %d share memory", at, behind)
			}
		}
	}
}

func TestLogTextsAreNewMemory(t *testing.T) {
	one, two, put := strings.Clone("one"), longText(640), strings.Clone("put")
	l := logOf(3, 1, command(1, one), command(1, two), conf(1, strings.Clone("\x01\x02")))
	e := command(2, put)
	given := []string{one, two, put, l.Entries[2].Data}
	look := func(what string, a, b impl.Log) {
		t.Helper()
		if len(a.Entries) == 0 {
			t.Errorf("%s answers no entry", what)
		}
		for at := range a.Entries {
			text := a.Entries[at].Data
			for _, other := range append(slices.Clone(given), b.Entries[at].Data) {
				if sharesBytes(text, other) {
					t.Errorf("%s answers bytes of an argument, or of another answer: %.8q", what, text)
				}
			}
		}
	}
	for index := 4; index <= 7; index++ {
		first, _ := impl.LogPut(l, index, e)
		second, _ := impl.LogPut(l, index, e)
		look("LogPut", first, second)
	}
	for base := 3; base <= 5; base++ {
		look("LogBehind", impl.LogBehind(l, base, 1), impl.LogBehind(l, base, 1))
	}
}
