package tests

import (
	"math"
	"slices"
	"strings"
	"sync"
	"testing"

	"loop.example/g00188/impl"
)

// all the right confs there are, with their texts
func handConfs() []struct {
	conf []int
	text string
} {
	return []struct {
		conf []int
		text string
	}{
		{[]int{1}, "\x01"},
		{[]int{2}, "\x02"},
		{[]int{3}, "\x03"},
		{[]int{4}, "\x04"},
		{[]int{1, 2}, "\x01\x02"},
		{[]int{1, 3}, "\x01\x03"},
		{[]int{1, 4}, "\x01\x04"},
		{[]int{2, 3}, "\x02\x03"},
		{[]int{2, 4}, "\x02\x04"},
		{[]int{3, 4}, "\x03\x04"},
		{[]int{1, 2, 3}, "\x01\x02\x03"},
		{[]int{1, 2, 4}, "\x01\x02\x04"},
		{[]int{1, 3, 4}, "\x01\x03\x04"},
		{[]int{2, 3, 4}, "\x02\x03\x04"},
		{[]int{1, 2, 3, 4}, "\x01\x02\x03\x04"},
	}
}

// the same, made once, for those who ask again and again and write nothing into it
var keptConfs = sync.OnceValue(handConfs)

func wrongConfs() [][]int {
	return [][]int{
		nil, {},
		// numbers that no node has
		{0}, {-1}, {5}, {6}, {-4}, {127}, {128}, {255}, {'1'}, {math.MaxInt64}, {math.MinInt64}, {math.MinInt64 + 1},
		{0, 1}, {0, 1, 2, 3}, {1, 5}, {1, 2, 3, 5}, {2, 3, 4, 5}, {4, 5}, {-1, 1}, {-1, 0}, {-2, -1}, {1, -1}, {1, 0}, {5, 6, 7, 8},
		// more than there are
		{1, 2, 3, 4, 5}, {0, 1, 2, 3, 4}, {1, 2, 3, 4, 4}, {1, 1, 2, 3, 4}, {1, 2, 3, 4, 1}, {1, 2, 3, 4, 0}, {1, 2, 3, 4, 5, 6},
		// a number twice
		{1, 1}, {2, 2}, {4, 4}, {1, 1, 2}, {1, 2, 2}, {1, 2, 1}, {1, 2, 3, 3}, {1, 1, 1, 1}, {1, 2, 2, 3}, {3, 3, 4},
		// not ascending
		{2, 1}, {4, 3}, {1, 3, 2}, {2, 1, 3}, {3, 2, 1}, {4, 3, 2, 1}, {1, 2, 4, 3}, {2, 1, 3, 4}, {1, 3, 2, 4}, {2, 3, 4, 1},
		// right in the lowest byte, or in the lowest 32 bits
		{257}, {258}, {260}, {-255}, {-252}, {1, 258}, {1, 2, 259}, {1, 2, 3, 260}, {257, 258}, {-255, -254}, {-255, 2}, {1, -254},
		{1<<16 + 1}, {1<<32 + 1}, {1, 1<<32 + 2}, {-1<<32 + 1}, {1<<62 + 4}, {math.MinInt64 + 3},
	}
}

// each list of at most most of these numbers
func listsOf(numbers []int, most int) [][]int {
	lists := [][]int{nil}
	last := lists
	for range most {
		var longer [][]int
		for _, list := range last {
			for _, n := range numbers {
				longer = append(longer, append(slices.Clone(list), n))
			}
		}
		lists = append(lists, longer...)
		last = longer
	}
	return lists
}

// the text of each right conf, by its place in the table that is written out by hand
func plainConfText(conf []int) (string, bool) {
	for _, c := range keptConfs() {
		if slices.Equal(c.conf, conf) {
			return c.text, true
		}
	}
	return "", false
}

func plainReadConf(text string) ([]int, bool) {
	for _, c := range keptConfs() {
		if c.text == text {
			return slices.Clone(c.conf), true
		}
	}
	return nil, false
}

func lookAtConf(t *testing.T, conf []int) {
	t.Helper()
	want, right := plainConfText(conf)
	if got := impl.ConfOk(conf); got != right {
		t.Fatalf("ConfOk(%v) = %v", conf, got)
	}
	if got, ok := impl.ConfText(conf); got != want || ok != right {
		t.Fatalf("ConfText(%v) = %q, %v, want %q, %v", conf, got, ok, want, right)
	}
}

func lookAtConfText(t *testing.T, text string) {
	t.Helper()
	want, right := plainReadConf(text)
	got, ok := impl.ReadConf(text)
	if !slices.Equal(got, want) || ok != right {
		t.Fatalf("ReadConf(%.20q) of %d bytes = %v, %v, want %v, %v", text, len(text), got, ok, want, right)
	}
	if !ok {
		return
	}
	if again, told := impl.ConfText(got); again != text || !told {
		t.Fatalf("ConfText of what %q was read as = %q, %v", text, again, told)
	}
}

func TestEntryConstants(t *testing.T) {
	got := []int{impl.MaxNodes, impl.MaxTerm, impl.MaxIndex, impl.MaxData, impl.EntryNone, impl.EntryConf, impl.EntryCommand}
	if want := []int{4, 100000, 1000000, 640, 1, 2, 3}; !slices.Equal(got, want) {
		t.Errorf("constants %v, want %v", got, want)
	}
}

func TestConfsComeBack(t *testing.T) {
	for _, c := range handConfs() {
		text, ok := impl.ConfText(c.conf)
		if !impl.ConfOk(c.conf) || text != c.text || !ok {
			t.Errorf("ConfText(%v) = %q, %v, want %q", c.conf, text, ok, c.text)
		}
		if got, right := impl.ReadConf(text); !slices.Equal(got, c.conf) || !right {
			t.Errorf("ReadConf(%q) = %v, %v, want %v", text, got, right, c.conf)
		}
	}
}

func TestWrongConfs(t *testing.T) {
	for _, conf := range wrongConfs() {
		if impl.ConfOk(conf) {
			t.Errorf("ConfOk(%v) is true", conf)
		}
		if got, ok := impl.ConfText(conf); got != "" || ok {
			t.Errorf("ConfText(%v) = %q, %v, want nothing", conf, got, ok)
		}
	}
	for _, n := range []int{4, 5, 100, 256, 257, 260, 100000} {
		conf := make([]int, n)
		for at := range conf {
			conf[at] = at + 1
		}
		lookAtConf(t, conf)
		lookAtConf(t, slices.Repeat([]int{1}, n))
		lookAtConf(t, make([]int, n))
	}
}

func TestConfsOfSmallNumbers(t *testing.T) {
	right := 0
	for _, conf := range listsOf([]int{-1, 0, 1, 2, 3, 4, 5, 257}, 5) {
		lookAtConf(t, conf)
		if impl.ConfOk(conf) {
			right++
		}
	}
	if right != 15 {
		t.Errorf("%d confs are right, want 15", right)
	}
}

func TestReadConfOfShortTexts(t *testing.T) {
	lookAtConfText(t, "")
	for a := range 256 {
		lookAtConfText(t, string([]byte{byte(a)}))
		for b := range 256 {
			lookAtConfText(t, string([]byte{byte(a), byte(b)}))
		}
	}
	for _, list := range listsOf([]int{0, 1, 2, 3, 4, 5, 129, 255}, 5) {
		text := make([]byte, len(list))
		for at, n := range list {
			text[at] = byte(n)
		}
		lookAtConfText(t, string(text))
	}
}

func TestReadConfRefuses(t *testing.T) {
	for _, text := range []string{
		"", "\x00", "\x05", "\xff", "\x80", "1", "1 2", "E", "\x01\x05", "\x00\x01", "\x01\x00", "\x01\x01", "\x02\x01", "\x01\x03\x02",
		"\x01\x02\x03\x04\x05", "\x01\x02\x03\x04\x04", "\x01\x02\x03\x04\x00", "\x00\x01\x02\x03\x04", "\x01\x02\x03\x04\x01\x02\x03\x04",
		"\x81\x02", "\x01\x82", "\x01 \x02", "\x01\x02\n", "\x01\x02\x03\x05", "\x04\x03\x02\x01",
		allBytes(), allBytes()[1:], longText(impl.MaxText), strings.Repeat("\x01", 300), "\x01\x02\x03\x04" + strings.Repeat("\x00", 252),
	} {
		if got, ok := impl.ReadConf(text); len(got) != 0 || ok {
			t.Errorf("ReadConf(%.20q) of %d bytes = %v, %v, want nothing", text, len(text), got, ok)
		}
	}
}

// Data of an EntryCommand at its edges
func edgeData() []string {
	list := []string{
		"", "x", "\x00", "\x01", "\x02", "\x03", "E", "\x7f", "\x80", "\xff", "\x00\xff", "\x01\x02", "ä€", "E\x03\x02\x03x",
		"\x00\x00\x00", "\xff\xff\xff", allBytes(), longText(127), longText(128), longText(impl.MaxData - 1), longText(impl.MaxData),
		strings.Repeat("\x00", impl.MaxData), strings.Repeat("\xff", impl.MaxData),
	}
	for b := range 256 {
		list = append(list, string([]byte{byte(b)}))
	}
	return list
}

func edgeTerms() []int {
	return []int{0, 1, 2, 3, 126, 127, 128, 129, 255, 256, 257, 16383, 16384, 65536, impl.MaxTerm - 1, impl.MaxTerm}
}

func edgeIndexes() []int {
	return []int{1, 2, 3, 126, 127, 128, 129, 255, 256, 257, 16383, 16384, 65536, impl.MaxTerm, impl.MaxTerm + 1, impl.MaxIndex - 1, impl.MaxIndex}
}

// right entries of all Kinds with this Term
func rightEntries(term int) []impl.Entry {
	list := []impl.Entry{{Term: term, Kind: impl.EntryNone}}
	for _, c := range handConfs() {
		list = append(list, impl.Entry{Term: term, Kind: impl.EntryConf, Data: c.text})
	}
	for _, data := range edgeData() {
		list = append(list, impl.Entry{Term: term, Kind: impl.EntryCommand, Data: data})
	}
	return list
}

// the text of an entry by the chapter's words, right or not
func plainEntryText(index int, e impl.Entry) string {
	return "E" + plainLength(index) + plainLength(e.Term) + string([]byte{byte(e.Kind)}) + e.Data
}

func plainEntryOk(e impl.Entry) bool {
	if e.Term < 0 || e.Term > 100000 {
		return false
	}
	switch e.Kind {
	case 1:
		return e.Data == ""
	case 2:
		_, right := plainReadConf(e.Data)
		return right
	}
	return e.Kind == 3 && len(e.Data) <= 640
}

// ReadEntry by the chapter's words: of all the ways to part the text the one of which it is the text
func plainReadEntry(text string) (int, impl.Entry, bool) {
	for one := 1; one <= 3; one++ {
		for two := 1; two <= 3; two++ {
			at := 1 + one + two
			if at >= len(text) {
				continue
			}
			index := plainNumber(text[1 : 1+one])
			e := impl.Entry{Term: plainNumber(text[1+one : at]), Kind: int(text[at]), Data: text[at+1:]}
			if index >= 1 && index <= 1000000 && plainEntryOk(e) && plainEntryText(index, e) == text {
				return index, e, true
			}
		}
	}
	return 0, impl.Entry{}, false
}

// what the bytes come to, each with seven bits, whether or not they are the form that VarText gives
func plainNumber(text string) int {
	n := 0
	for at := len(text) - 1; at >= 0; at-- {
		n = n*128 + int(text[at])%128
	}
	return n
}

func lookAtEntry(t *testing.T, index int, e impl.Entry) {
	t.Helper()
	right := plainEntryOk(e)
	if got := impl.EntryOk(e); got != right {
		t.Fatalf("EntryOk(Term %d, Kind %d, %.40q) = %v", e.Term, e.Kind, e.Data, got)
	}
	want := ""
	right = right && index >= 1 && index <= 1000000
	if right {
		want = plainEntryText(index, e)
	}
	if got, ok := impl.EntryText(index, e); got != want || ok != right {
		t.Fatalf("EntryText(%d, Term %d, Kind %d, %.40q) = %.40q, %v, want %.40q, %v", index, e.Term, e.Kind, e.Data, got, ok, want, right)
	}
	if right {
		wantEntry(t, want, index, e, true)
	}
}

func wantEntry(t *testing.T, text string, index int, e impl.Entry, right bool) {
	t.Helper()
	i, got, ok := impl.ReadEntry(text)
	if i != index || got != e || ok != right {
		t.Fatalf("ReadEntry(%.40q) of %d bytes = %d, Term %d, Kind %d, %.40q, %v", text, len(text), i, got.Term, got.Kind, got.Data, ok)
	}
	if !ok {
		return
	}
	if again, told := impl.EntryText(i, got); again != text || !told {
		t.Fatalf("EntryText of what %.40q was read as = %.40q, %v", text, again, told)
	}
}

func refuseEntry(t *testing.T, text string) {
	t.Helper()
	wantEntry(t, text, 0, impl.Entry{}, false)
}

func lookAtEntryText(t *testing.T, text string) bool {
	t.Helper()
	index, e, right := plainReadEntry(text)
	wantEntry(t, text, index, e, right)
	return right
}

func TestEntryBytes(t *testing.T) {
	none, conf, command := impl.EntryNone, impl.EntryConf, impl.EntryCommand
	nought := strings.Repeat("\x00", 640)
	for _, c := range []struct {
		index int
		entry impl.Entry
		text  string
	}{
		{1, impl.Entry{Term: 0, Kind: none}, "E\x01\x00\x01"},
		{3, impl.Entry{Term: 2, Kind: command, Data: "x"}, "E\x03\x02\x03x"},
		{127, impl.Entry{Term: 127, Kind: none}, "E\x7f\x7f\x01"},
		{128, impl.Entry{Term: 128, Kind: none}, "E\x80\x01\x80\x01\x01"},
		{300, impl.Entry{Term: 1, Kind: none}, "E\xac\x02\x01\x01"},
		{1, impl.Entry{Term: 300, Kind: none}, "E\x01\xac\x02\x01"},
		{16383, impl.Entry{Term: 16384, Kind: none}, "E\xff\x7f\x80\x80\x01\x01"},
		{1000000, impl.Entry{Term: 100000, Kind: none}, "E\xc0\x84\x3d\xa0\x8d\x06\x01"},
		{1, impl.Entry{Term: 1, Kind: conf, Data: "\x01"}, "E\x01\x01\x02\x01"},
		{2, impl.Entry{Term: 1, Kind: conf, Data: "\x01\x02\x03\x04"}, "E\x02\x01\x02\x01\x02\x03\x04"},
		{1000000, impl.Entry{Term: 100000, Kind: conf, Data: "\x02\x04"}, "E\xc0\x84\x3d\xa0\x8d\x06\x02\x02\x04"},
		{1, impl.Entry{Term: 0, Kind: command}, "E\x01\x00\x03"},
		{69, impl.Entry{Term: 69, Kind: command, Data: "E"}, "EEE\x03E"},
		{128, impl.Entry{Term: 0, Kind: command, Data: "\x00"}, "E\x80\x01\x00\x03\x00"},
		{1, impl.Entry{Term: 128, Kind: command, Data: "\xff"}, "E\x01\x80\x01\x03\xff"},
		{1000000, impl.Entry{Term: 100000, Kind: command, Data: nought}, "E\xc0\x84\x3d\xa0\x8d\x06\x03" + nought},
	} {
		if !impl.EntryOk(c.entry) {
			t.Errorf("EntryOk of %.20q is false", c.text)
		}
		if got, ok := impl.EntryText(c.index, c.entry); got != c.text || !ok {
			t.Errorf("EntryText(%d, ..) = %.20q, %v, want %.20q", c.index, got, ok, c.text)
		}
		wantEntry(t, c.text, c.index, c.entry, true)
	}
}

func TestEntriesComeBack(t *testing.T) {
	for _, term := range edgeTerms() {
		for _, e := range rightEntries(term) {
			for _, index := range edgeIndexes() {
				text, ok := impl.EntryText(index, e)
				i, got, right := impl.ReadEntry(text)
				if !impl.EntryOk(e) || !ok || !right || i != index || got.Term != term || got.Kind != e.Kind || got.Data != e.Data {
					t.Fatalf("the entry %d of Term %d, Kind %d, %.20q comes back as %d, %d, %d, %.20q, %v", index, term, e.Kind, e.Data, i, got.Term, got.Kind, got.Data, right)
				}
				if text != plainEntryText(index, e) {
					t.Fatalf("EntryText(%d, Term %d, Kind %d, %.20q) = %.20q", index, term, e.Kind, e.Data, text)
				}
			}
		}
	}
	for n := range impl.MaxData + 1 {
		lookAtEntry(t, 1+n*1000, impl.Entry{Term: n * 100, Kind: impl.EntryCommand, Data: longText(n)})
	}
}

func TestEntriesOfEachIndexAndTerm(t *testing.T) {
	for index := 1; index <= impl.MaxIndex; index += 1 + index/5000 {
		lookAtEntry(t, index, impl.Entry{Term: 7, Kind: impl.EntryNone})
	}
	for term := 0; term <= impl.MaxTerm; term += 1 + term/5000 {
		lookAtEntry(t, 7, impl.Entry{Term: term, Kind: impl.EntryConf, Data: "\x01\x02"})
	}
}

func wrongKinds() []int {
	return []int{0, 4, 5, -1, -2, -3, 127, 128, 255, 256, 257, 258, 259, -253, -254, -255, 1<<32 + 1, 1<<32 + 2, 1<<32 + 3, math.MaxInt64, math.MinInt64, math.MinInt64 + 1}
}

func wrongTerms() []int {
	return []int{-1, -2, -128, -impl.MaxTerm, impl.MaxTerm + 1, impl.MaxTerm + 2, impl.MaxIndex, impl.MaxNumber, impl.MaxNumber + 1, 1<<32 + 1, -1<<32 + 1, math.MaxInt64, math.MinInt64}
}

func wrongIndexes() []int {
	return []int{0, -1, -2, -128, -impl.MaxIndex, impl.MaxIndex + 1, impl.MaxIndex + 2, 1 << 21, impl.MaxNumber, impl.MaxNumber + 1, 1<<32 + 1, -1<<32 + 1, math.MaxInt64, math.MinInt64}
}

// entries that are wrong in one thing alone
func wrongEntries() []impl.Entry {
	var list []impl.Entry
	for _, kind := range wrongKinds() {
		for _, data := range []string{"", "\x01", "\x01\x02", "x", longText(impl.MaxData)} {
			list = append(list, impl.Entry{Term: 1, Kind: kind, Data: data})
		}
	}
	for _, term := range wrongTerms() {
		list = append(list, rightEntries(term)...)
	}
	for _, data := range edgeData()[1:] {
		list = append(list, impl.Entry{Term: 1, Kind: impl.EntryNone, Data: data})
	}
	for _, data := range []string{
		"", "\x00", "\x05", "\xff", "1", "\x02\x01", "\x01\x01", "\x01\x03\x02", "\x01\x02\x03\x04\x05", "\x01\x02\x03\x04\x04", "\x00\x01", "\x01\x00", "\x01\x05",
		"\x81", "\x01\x02\x03\x84", allBytes(), longText(impl.MaxData), longText(impl.MaxData + 1), "E\x01\x01\x02\x01",
	} {
		list = append(list, impl.Entry{Term: 1, Kind: impl.EntryConf, Data: data})
	}
	for _, n := range []int{impl.MaxData + 1, impl.MaxData + 2, 2 * impl.MaxData, impl.MaxText, impl.MaxText + 1} {
		list = append(list, impl.Entry{Term: 1, Kind: impl.EntryCommand, Data: longText(n)}, impl.Entry{Term: 1, Kind: impl.EntryCommand, Data: strings.Repeat("\x00", n)})
	}
	return append(list, impl.Entry{})
}

func TestWrongEntries(t *testing.T) {
	for _, e := range wrongEntries() {
		if impl.EntryOk(e) {
			t.Errorf("EntryOk of Term %d, Kind %d, %.20q (%d bytes) is true", e.Term, e.Kind, e.Data, len(e.Data))
		}
		for _, index := range append(edgeIndexes(), wrongIndexes()...) {
			if got, ok := impl.EntryText(index, e); got != "" || ok {
				t.Errorf("EntryText(%d, Term %d, Kind %d, %.20q) = %.20q, %v, want nothing", index, e.Term, e.Kind, e.Data, got, ok)
			}
		}
	}
}

func TestWrongIndexes(t *testing.T) {
	for _, index := range wrongIndexes() {
		for _, term := range edgeTerms() {
			for _, e := range rightEntries(term) {
				if got, ok := impl.EntryText(index, e); got != "" || ok {
					t.Fatalf("EntryText(%d, Term %d, Kind %d, %.20q) = %.20q, %v, want nothing", index, e.Term, e.Kind, e.Data, got, ok)
				}
			}
		}
	}
}

func TestEntriesByTheWords(t *testing.T) {
	datas := []string{"", "\x00", "\x01", "\x05", "\x01\x02", "\x02\x01", "\x01\x02\x03\x04", "x", longText(4), longText(640), longText(641)}
	for _, index := range append(edgeIndexes(), wrongIndexes()...) {
		for _, term := range append(edgeTerms(), wrongTerms()...) {
			for _, kind := range append(wrongKinds(), 1, 2, 3) {
				for _, data := range datas {
					lookAtEntry(t, index, impl.Entry{Term: term, Kind: kind, Data: data})
				}
			}
		}
	}
}

func TestReadEntryRefuses(t *testing.T) {
	most := longText(impl.MaxData)
	for _, text := range []string{
		"", "E", "E\x03", "E\x03\x02", "E\x80", "E\x80\x01", "E\x03\x80", "E\x80\x01\x80", "EE", "EEE",
		// another first byte, one more ahead of it, or none
		"e\x03\x02\x01", "F\x03\x02\x01", "D\x03\x02\x01", "\x00\x03\x02\x01", "\xc5\x03\x02\x01", " E\x03\x02\x01", "\x03\x02\x01", "\x03\x02\x03x",
		// a longer form of the index, or of the Term
		"E\x83\x00\x02\x01", "E\x83\x80\x00\x02\x01", "E\x80\x81\x00\x02\x01", "E\x03\x82\x00\x01", "E\x03\x80\x00\x01", "E\x03\x82\x80\x80\x80\x00\x01", "E\x83\x00\x82\x00\x01",
		"E\x83\x00\x02\x03x", "E\x03\x82\x00\x03x", "E\x03\x80\x00\x03", "E\x03\x80\x81\x00\x02\x01", "E\xc0\x84\xbd\x00\x02\x01", "E\x03\xa0\x8d\x86\x00\x01",
		// an index that is none
		"E\x00\x02\x01", "E\x00\x02\x03x", "E\x00\x02\x02\x01", "E\xc1\x84\x3d\x02\x01", "E\xc1\x84\x3d\x02\x03x", "E\x80\x80\x80\x01\x02\x01", "E\x80\x94\xeb\xdc\x03\x02\x01",
		"E\x81\x94\xeb\xdc\x03\x02\x01", "E\xff\xff\xff\xff\x7f\x02\x01", "E\x81\x80\x80\x80\x10\x02\x01", "E\xff\xff\xff\xff\xff\xff\xff\xff\xff\x01\x02\x01",
		// a Term that is none
		"E\x03\xa1\x8d\x06\x01", "E\x03\xa1\x8d\x06\x03x", "E\x03\xa1\x8d\x06\x02\x01", "E\x03\x80\x80\x80\x01\x01", "E\x03\x80\x94\xeb\xdc\x03\x01", "E\x03\x81\x94\xeb\xdc\x03\x01",
		"E\x03\x82\x80\x80\x80\x10\x01", "E\x03\xff\xff\xff\xff\xff\xff\xff\xff\xff\x01\x01",
		// a Kind that is none
		"E\x03\x02\x00", "E\x03\x02\x04", "E\x03\x02\x05", "E\x03\x02\x04x", "E\x03\x02\x00x", "E\x03\x02\x81", "E\x03\x02\x82\x01", "E\x03\x02\x83x", "E\x03\x02\xff", "E\x03\x021", "E\x03\x023x",
		"E\x03\x02\x81\x00", "E\x03\x02\x83\x00x", "E\x03\x02\x00\x01", "E\x03\x02\x04\x01",
		// Data that is none of its Kind
		"E\x03\x02\x01\x00", "E\x03\x02\x01\x01", "E\x03\x02\x01x", "E\x03\x02\x01E\x03\x02\x01", "E\x03\x02\x01" + most,
		"E\x03\x02\x02", "E\x03\x02\x02\x00", "E\x03\x02\x02\x05", "E\x03\x02\x02\x01\x00", "E\x03\x02\x02\x01\x01", "E\x03\x02\x02\x02\x01", "E\x03\x02\x02\x01\x02\x03\x04\x05",
		"E\x03\x02\x02\x01\x02\x03\x04\x00", "E\x03\x02\x02\x01\x02\x03\x04\x04", "E\x03\x02\x02x", "E\x03\x02\x02\x81", "E\x03\x02\x02" + most,
		"E\x03\x02\x03" + most + "x", "E\x03\x02\x03" + most + "\x00", "E\x03\x02\x03" + most + most, "E\x03\x02\x03" + longText(impl.MaxText), "E\x03\x02\x03" + longText(20*impl.MaxText),
		// what other chapters tell
		"\x03one", plainFrame("E\x03\x02\x01"), bitSealed("E\x03\x02\x01"), strings.Repeat("E", 5000), strings.Repeat("\xff", 5000), strings.Repeat("\x00", 5000),
		"E" + strings.Repeat("\x80", 5000), "E" + strings.Repeat("\xff", 5000), "E3 2 1", "E\x03\x02\x01\n",
	} {
		refuseEntry(t, text)
	}
}

// A cut takes the Kind away, or leaves Data that is shorter, and right or not as such.
func TestCutEntries(t *testing.T) {
	for _, term := range []int{0, 1, 127, 128, impl.MaxTerm} {
		for _, index := range []int{1, 127, 128, impl.MaxIndex} {
			for _, e := range []impl.Entry{
				{Term: term, Kind: impl.EntryNone},
				{Term: term, Kind: impl.EntryConf, Data: "\x01"},
				{Term: term, Kind: impl.EntryConf, Data: "\x01\x02\x03\x04"},
				{Term: term, Kind: impl.EntryCommand},
				{Term: term, Kind: impl.EntryCommand, Data: longText(impl.MaxData)},
			} {
				text, _ := impl.EntryText(index, e)
				ahead := len(text) - len(e.Data)
				for cut := range ahead {
					refuseEntry(t, text[:cut])
				}
				for cut := ahead; cut < len(text); cut++ {
					left := impl.Entry{Term: term, Kind: e.Kind, Data: text[ahead:cut]}
					if plainEntryOk(left) {
						wantEntry(t, text[:cut], index, left, true)
					} else {
						refuseEntry(t, text[:cut])
					}
				}
				for cut := 1; cut < ahead; cut++ {
					lookAtEntryText(t, text[cut:])
					lookAtEntryText(t, "E"+text[cut:])
				}
				if e.Kind != impl.EntryCommand {
					refuseEntry(t, text+"\x00")
					refuseEntry(t, text+text)
				}
			}
		}
	}
}

func TestTurnedEntries(t *testing.T) {
	for _, e := range []impl.Entry{
		{Term: 2, Kind: impl.EntryNone},
		{Term: 128, Kind: impl.EntryNone},
		{Term: 0, Kind: impl.EntryConf, Data: "\x01\x02\x04"},
		{Term: impl.MaxTerm, Kind: impl.EntryConf, Data: "\x03"},
		{Term: 1, Kind: impl.EntryCommand},
		{Term: 127, Kind: impl.EntryCommand, Data: "two words"},
		{Term: impl.MaxTerm, Kind: impl.EntryCommand, Data: longText(impl.MaxData)},
	} {
		for _, index := range []int{1, 127, 128, 16384, impl.MaxIndex} {
			text, _ := impl.EntryText(index, e)
			for at := range min(len(text), 40) {
				for mask := 1; mask < 256; mask++ {
					lookAtEntryText(t, turned(text, at, byte(mask)))
				}
			}
		}
	}
}

// Whatever is read is told in just the bytes that were read: all short texts of some bytes.
func TestReadEntryOfShortTexts(t *testing.T) {
	right := 0
	for _, list := range listsOf([]int{0, 1, 2, 3, 4, 127, 128, 'E', 255}, 5) {
		text := []byte("E")
		for _, n := range list {
			text = append(text, byte(n))
		}
		if lookAtEntryText(t, string(text)) {
			right++
		}
		lookAtEntryText(t, string(text[1:]))
	}
	if right < 2000 {
		t.Errorf("%d texts were right", right)
	}
}

func TestDrawnEntryTexts(t *testing.T) {
	d := draw(5)
	right := 0
	for range 100000 {
		text := "E"
		for range 2 {
			n := d.below(1 << d.below(22))
			text += plainLength(n)
			if d.below(20) == 0 {
				text = text[:len(text)-1] + string([]byte{text[len(text)-1] | 128, 0})
			}
		}
		text += string([]byte{byte(d.below(5))})
		for range d.below(4) * d.below(3) {
			text += string([]byte{byte(d.below(6))})
		}
		if lookAtEntryText(t, text) {
			right++
		}
	}
	if right < 10000 || right > 90000 {
		t.Errorf("%d of the drawn texts were right", right)
	}
}

func TestMostFixed(t *testing.T) {
	for _, c := range []struct {
		conf, list []int
		want       bool
	}{
		{[]int{1}, nil, false},
		{[]int{1}, []int{1}, true},
		{[]int{1}, []int{2, 3, 4}, false},
		{[]int{4}, []int{1, 2, 3}, false},
		{[]int{4}, []int{1, 2, 3, 4}, true},
		{[]int{1, 2}, nil, false},
		{[]int{1, 2}, []int{1}, false},
		{[]int{1, 2}, []int{2}, false},
		{[]int{1, 2}, []int{1, 1, 1}, false},
		{[]int{1, 2}, []int{1, 3, 4}, false},
		{[]int{1, 2}, []int{1, 2}, true},
		{[]int{1, 2}, []int{2, 1}, true},
		{[]int{1, 2, 3}, []int{1}, false},
		{[]int{1, 2, 3}, []int{3, 3}, false},
		{[]int{1, 2, 3}, []int{3, 4}, false},
		{[]int{1, 2, 3}, []int{1, 3}, true},
		{[]int{2, 3, 4}, []int{4, 1, 2}, true},
		{[]int{1, 2, 3}, []int{1, 2, 3}, true},
		{[]int{1, 2, 3, 4}, []int{4}, false},
		{[]int{1, 2, 3, 4}, []int{1, 2}, false},
		{[]int{1, 2, 3, 4}, []int{3, 4}, false},
		{[]int{1, 2, 3, 4}, []int{1, 2, 2, 1, 2}, false},
		{[]int{1, 2, 3, 4}, []int{1, 2, 5, 6, 0, -1}, false},
		{[]int{1, 2, 3, 4}, []int{4, 2, 1}, true},
		{[]int{1, 2, 3, 4}, []int{1, 2, 3, 4}, true},
		{[]int{1, 2, 3}, []int{257, 258, 259}, false},
		{[]int{1, 2, 3}, []int{1, 258, 1<<32 + 2, -254}, false},
		{[]int{1, 2, 3}, []int{-1, -2, -3}, false},
		{[]int{1, 2, 3}, []int{math.MinInt64, 3, math.MaxInt64, 2}, true},
	} {
		if got := impl.Most(c.conf, c.list); got != c.want {
			t.Errorf("Most(%v, %v) = %v", c.conf, c.list, got)
		}
	}
}

func plainMost(conf, list []int) bool {
	in, out := 0, 0
	for _, node := range conf {
		if slices.Index(list, node) >= 0 {
			in++
		} else {
			out++
		}
	}
	return in > out
}

// each right conf with each list, of its own numbers and of others, twice or in any order
func TestMostOfEachList(t *testing.T) {
	lists := listsOf([]int{0, 1, 2, 3, 4, 5}, 5)
	for _, c := range handConfs() {
		for _, list := range lists {
			if got := impl.Most(c.conf, list); got != plainMost(c.conf, list) {
				t.Fatalf("Most(%v, %v) = %v", c.conf, list, got)
			}
		}
	}
}

func TestMostOfLongLists(t *testing.T) {
	for _, c := range handConfs() {
		strangers := make([]int, 1000)
		for at := range strangers {
			strangers[at] = 5 + at
		}
		twice := slices.Repeat(c.conf[:len(c.conf)/2], 1000)
		if impl.Most(c.conf, append(twice, strangers...)) {
			t.Errorf("Most(%v, half of it and strangers) is true", c.conf)
		}
		if !impl.Most(c.conf, append(strangers, c.conf...)) {
			t.Errorf("Most(%v, strangers and all of it) is false", c.conf)
		}
	}
}

// Of what is no conf nothing is most.
func TestMostOfWrongConfs(t *testing.T) {
	for _, conf := range wrongConfs() {
		for _, list := range [][]int{nil, {0}, {1}, {1, 2, 3, 4}, {4, 3, 2, 1, 0, -1, 5}, slices.Clone(conf), slices.Repeat(conf, 3)} {
			if impl.Most(conf, list) {
				t.Errorf("Most(%v, %v) is true", conf, list)
			}
		}
	}
}

// a list with room behind it, and a look at whether all of it is as it was
func roomyNumbers(list []int) ([]int, func() bool) {
	long := append(make([]int, 0, len(list)+20), list...)
	room := long[:cap(long)]
	for at := len(long); at < len(room); at++ {
		room[at] = -at
	}
	before := slices.Clone(room)
	return long, func() bool { return slices.Equal(room, before) }
}

func TestConfsAreNewMemory(t *testing.T) {
	confs := wrongConfs()
	for _, c := range handConfs() {
		confs = append(confs, c.conf)
	}
	for _, from := range confs {
		conf, untouched := roomyNumbers(from)
		list, listUntouched := roomyNumbers([]int{4, 2, 9, 1})
		most := impl.Most(conf, list)
		right := impl.ConfOk(conf)
		first, ok := impl.ConfText(conf)
		second, again := impl.ConfText(conf)
		if len(first) > 1 && sharesBytes(first, second) {
			t.Errorf("two ConfTexts of %v share memory", from)
		}
		if first != second || ok != again || right != ok || impl.Most(conf, list) != most || impl.Most(from, list) != most || impl.ConfOk(conf) != right {
			t.Errorf("%v is answered in another way again", from)
		}
		if !untouched() || !listUntouched() {
			t.Errorf("something is written into %v or the list", from)
		}
	}
	for _, c := range handConfs() {
		first, _ := impl.ReadConf(c.text)
		second, _ := impl.ReadConf(c.text)
		for at := range first[:cap(first)] {
			first[:cap(first)][at] = 77
		}
		if !slices.Equal(second, c.conf) {
			t.Errorf("a conf that is written into changes another one: %v, want %v", second, c.conf)
		}
		lookAtConfText(t, c.text)
	}
	// beside a false, too, nothing is shared
	first, _ := impl.ReadConf("\x02\x01")
	_ = append(first, 1, 2, 3)
	lookAtConfText(t, "\x02\x01")
}

func TestEntriesAreNewMemory(t *testing.T) {
	for _, data := range []string{"", "x", "two words", "\x01\x02\x03", longText(200), longText(impl.MaxData)} {
		for kind := 1; kind <= 3; kind++ {
			e := impl.Entry{Term: 5, Kind: kind, Data: strings.Clone(data)}
			if !plainEntryOk(e) {
				continue
			}
			first, _ := impl.EntryText(9, e)
			second, _ := impl.EntryText(9, e)
			if sharesBytes(first, second) || sharesBytes(first, e.Data) || first != second || e.Data != data {
				t.Errorf("EntryText of Kind %d, %.20q shares memory, or answers another one again", kind, data)
			}
			_, one, _ := impl.ReadEntry(first)
			_, two, _ := impl.ReadEntry(first)
			// a text of one byte may be the library's own, whoever asks for it
			if sharesBytes(one.Data, first) || len(data) > 1 && sharesBytes(one.Data, two.Data) || one != two || one != e {
				t.Errorf("ReadEntry of Kind %d, %.20q shares memory, or answers another one again", kind, data)
			}
		}
	}
}
