package tests

import (
	"fmt"
	"math"
	"slices"
	"strconv"
	"strings"
	"testing"

	"loop.example/g00188/impl"
)

func snap(index, term int, nodes []int, body string) impl.Snap {
	return impl.Snap{Index: index, Term: term, Conf: nodes, Body: body}
}

func sameSnap(a, b impl.Snap) bool {
	return a.Index == b.Index && a.Term == b.Term && slices.Equal(a.Conf, b.Conf) && a.Body == b.Body
}

func copySnap(s impl.Snap) impl.Snap {
	return snap(s.Index, s.Term, slices.Clone(s.Conf), s.Body)
}

func tellSnap(s impl.Snap) string {
	return fmt.Sprintf("[index %d, term %d, conf %v, body %.24q of %d bytes]", s.Index, s.Term, s.Conf, s.Body, len(s.Body))
}

// what is sealed in the text of a snapshot by the chapter's words, with whatever stands for its conf
func plainInner(index, term int, nodes, body string) string {
	return plainLength(index) + plainLength(term) + plainLength(len(nodes)) + nodes + plainLength(len(body)) + body
}

// the text of a snapshot with right numbers and a right conf, however long it is
func plainSnapText(s impl.Snap) string {
	nodes, _ := plainConfText(s.Conf)
	return bitSealed(plainInner(s.Index, s.Term, nodes, s.Body))
}

func plainSnapOk(s impl.Snap) bool {
	_, right := plainConfText(s.Conf)
	if s.Index < 0 || s.Index > 1000000 || s.Term < 0 || s.Term > 100000 || !right || len(s.Body) > 20000 {
		return false
	}
	return len(plainSnapText(s)) <= 20000
}

// ReadSnap by the chapter's words: of all the ways to part the text the one of which it is the text
func plainReadSnap(text string) (impl.Snap, bool) {
	for _, c := range handConfs() {
		nodes := plainLength(len(c.text)) + c.text
		for one := 1; one <= 3; one++ {
			for two := 1; two <= 3; two++ {
				at := one + two + len(nodes)
				if at > len(text) || text[one+two:at] != nodes {
					continue
				}
				for three := 1; three <= 3 && at+three+4 <= len(text); three++ {
					s := snap(plainNumber(text[:one]), plainNumber(text[one:one+two]), c.conf, text[at+three:len(text)-4])
					if text[:len(text)-4] == plainInner(s.Index, s.Term, c.text, s.Body) && plainSnapOk(s) && plainSnapText(s) == text {
						return s, true
					}
				}
			}
		}
	}
	return impl.Snap{}, false
}

// the index whose SnapName this is, by the chapter's words, or -1
func plainSnapIndex(name string) int {
	n, err := strconv.Atoi(strings.TrimPrefix(name, "s"))
	if err != nil || n < 0 || n > 1000000 || fmt.Sprintf("s%d", n) != name {
		return -1
	}
	return n
}

func plainNewest(d impl.Disk) (impl.Snap, bool) {
	if !plainRight(d) {
		return impl.Snap{}, false
	}
	newest, found := impl.Snap{}, false
	for _, f := range d.Files {
		s, ok := plainReadSnap(f.Text)
		if ok && plainSnapIndex(f.Name) == s.Index && (!found || newest.Index < s.Index) {
			newest, found = s, true
		}
	}
	return newest, found
}

// the drops of NameSnapNew, and of each file that has a SnapName but that of one index
func plainSnapDrops(d impl.Disk, index int) (fresh, others []impl.Act) {
	for _, f := range d.Files {
		n := plainSnapIndex(f.Name)
		if f.Name == "s+" {
			fresh = append(fresh, drop("s+"))
		} else if n != -1 && n != index {
			others = append(others, drop(f.Name))
		}
	}
	return fresh, others
}

func plainSnapActs(d impl.Disk, s impl.Snap) ([]impl.Act, bool) {
	if !plainRight(d) || !plainSnapOk(s) {
		return nil, false
	}
	acts, others := plainSnapDrops(d, s.Index)
	rest := plainSnapText(s)
	for len(rest) > 60 {
		acts = append(acts, add("s+", rest[:60]))
		rest = rest[60:]
	}
	acts = append(acts, add("s+", rest), keep("s+"), move("s+", fmt.Sprintf("s%d", s.Index)))
	return append(acts, others...), true
}

func plainShedActs(d impl.Disk) []impl.Act {
	newest, ok := plainNewest(d)
	if !ok {
		return nil
	}
	fresh, others := plainSnapDrops(d, newest.Index)
	return append(fresh, others...)
}

// a snapshot whose text has just so many bytes
func sizedSnap(t *testing.T, index, term int, nodes []int, bytes int) impl.Snap {
	t.Helper()
	bare := len(plainSnapText(snap(index, term, nodes, "")))
	for body := max(bytes-bare-2, 0); body <= bytes-bare; body++ {
		s := snap(index, term, nodes, longText(body))
		if len(plainSnapText(s)) == bytes {
			return s
		}
	}
	t.Fatalf("the test has no snapshot of %d bytes", bytes)
	return impl.Snap{}
}

func snapIndexes() []int { return append([]int{0}, edgeIndexes()...) }

func someConfs() [][]int { return [][]int{{1}, {4}, {2, 3}, {1, 3, 4}, {1, 2, 3, 4}} }

func someBodies() []string {
	return []string{
		"", "x", "\x00", "\x7f", "\x80", "\xff", "s+", "\x00\x00\x00\x00", "\xff\xff\xff\xff", "a body of words", allBytes(), longText(50), longText(51), longText(52),
		longText(126), longText(127), longText(128), longText(129), longText(1000), longText(16383), longText(16384), plainSnapText(snap(3, 1, []int{1}, "b")),
	}
}

func rightSnaps() []impl.Snap {
	var list []impl.Snap
	for _, index := range snapIndexes() {
		for _, term := range edgeTerms() {
			for _, nodes := range someConfs() {
				list = append(list, snap(index, term, nodes, ""), snap(index, term, nodes, "b"))
			}
		}
	}
	for _, c := range handConfs() {
		for _, body := range someBodies() {
			list = append(list, snap(7, 3, c.conf, body), snap(0, 0, c.conf, body), snap(1000000, 100000, c.conf, body))
		}
	}
	for b := range 256 {
		list = append(list, snap(b, b, []int{1, 2}, string([]byte{byte(b)})))
	}
	return list
}

func wrongSnapIndexes() []int {
	return slices.DeleteFunc(wrongIndexes(), func(n int) bool { return n == 0 })
}

// snapshots that are wrong in one thing alone
func wrongSnaps() []impl.Snap {
	var list []impl.Snap
	for _, body := range []string{"", "b", longText(200)} {
		for _, index := range wrongSnapIndexes() {
			list = append(list, snap(index, 3, []int{1, 2}, body), snap(index, 0, []int{1}, body))
		}
		for _, term := range wrongTerms() {
			list = append(list, snap(7, term, []int{1, 2}, body), snap(0, term, []int{1}, body))
		}
		for _, nodes := range wrongConfs() {
			list = append(list, snap(7, 3, nodes, body), snap(0, 0, nodes, body))
		}
	}
	return append(list, tooLongSnaps()...)
}

func tooLongSnaps() []impl.Snap {
	var list []impl.Snap
	for _, length := range []int{19990, 19991, 19993, 19994, 19997, 19999, 20000, 20001, 20002, 50000, 1 << 20} {
		list = append(list, snap(0, 0, []int{1}, longText(length)))
	}
	for _, length := range []int{19983, 19984, 19986, 19987, 20000, 20001} {
		list = append(list, snap(1000000, 100000, []int{1, 2, 3, 4}, longText(length)))
	}
	return list
}

func wantReadSnap(t *testing.T, text string, want impl.Snap, right bool) {
	t.Helper()
	if got, ok := impl.ReadSnap(text); !sameSnap(got, want) || ok != right {
		t.Fatalf("ReadSnap(%.60q) of %d bytes = %s, %v, want %s, %v", text, len(text), tellSnap(got), ok, tellSnap(want), right)
	}
}

func refuseReadSnap(t *testing.T, text string) {
	t.Helper()
	wantReadSnap(t, text, impl.Snap{}, false)
}

func wantSnapActs(t *testing.T, d impl.Disk, s impl.Snap, want []impl.Act, right bool) {
	t.Helper()
	if got, ok := impl.SnapActs(d, s); !slices.Equal(got, want) || ok != right {
		t.Fatalf("SnapActs(%s, %s) = %s, %v, want %s, %v", tell(d), tellSnap(s), tellActs(got), ok, tellActs(want), right)
	}
}

func refuseSnapActs(t *testing.T, d impl.Disk, s impl.Snap) {
	t.Helper()
	wantSnapActs(t, d, s, nil, false)
}

func wantNewest(t *testing.T, d impl.Disk, want impl.Snap, right bool) {
	t.Helper()
	if got, ok := impl.NewestSnap(d); !sameSnap(got, want) || ok != right {
		t.Fatalf("NewestSnap(%s) = %s, %v, want %s, %v", tell(d), tellSnap(got), ok, tellSnap(want), right)
	}
}

func refuseNewest(t *testing.T, d impl.Disk) {
	t.Helper()
	wantNewest(t, d, impl.Snap{}, false)
}

func wantShed(t *testing.T, d impl.Disk, want ...impl.Act) {
	t.Helper()
	if got := impl.ShedActs(d); !slices.Equal(got, want) {
		t.Fatalf("ShedActs(%s) = %s, want %s", tell(d), tellActs(got), tellActs(want))
	}
}

// the file of a snapshot, all of it kept
func snapFile(s impl.Snap) impl.File {
	text := plainSnapText(s)
	return file(fmt.Sprintf("s%d", s.Index), text, len(text))
}

// a disk with these files, in the order of their names
func sortedDisk(files ...impl.File) impl.Disk {
	out := slices.Clone(files)
	slices.SortFunc(out, func(f, g impl.File) int { return strings.Compare(f.Name, g.Name) })
	return disk(out...)
}

// files that have nothing to do with snapshots, of which nothing, a part and all is kept
func otherFiles() []impl.File {
	return []impl.File{file("a", "1", 0), file("j0", "two", 2), file("j3", "", 0), file("s", "any", 1), file("s01", "other", 5), file("t1", "x", 1)}
}

// the files that are no snapshot's, and not on the way to be one
func withoutSnaps(d impl.Disk) []impl.File {
	return slices.DeleteFunc(slices.Clone(d.Files), func(f impl.File) bool { return f.Name == "s+" || plainSnapIndex(f.Name) != -1 })
}

func TestSnapConstants(t *testing.T) {
	if impl.SnapChunk != 60 || impl.NameSnapNew != "s+" {
		t.Errorf("constants %d, %q", impl.SnapChunk, impl.NameSnapNew)
	}
}

func TestSnapName(t *testing.T) {
	for index, want := range map[int]string{0: "s0", 1: "s1", 9: "s9", 10: "s10", 99: "s99", 100: "s100", 12345: "s12345", 999999: "s999999", 1000000: "s1000000"} {
		if got := impl.SnapName(index); got != want {
			t.Errorf("SnapName(%d) = %q, want %q", index, got, want)
		}
	}
	for index := range 1000001 {
		if got := impl.SnapName(index); got != "s"+strconv.Itoa(index) {
			t.Fatalf("SnapName(%d) = %q", index, got)
		}
	}
	for _, index := range wrongSnapIndexes() {
		if got := impl.SnapName(index); got != "" {
			t.Errorf("SnapName(%d) = %q, want nothing", index, got)
		}
	}
}

// Texts that are written out by hand; the sums were reckoned bit by bit outside of the program.
func handSnaps() []struct {
	snap impl.Snap
	text string
} {
	return []struct {
		snap impl.Snap
		text string
	}{
		{snap(0, 0, []int{1}, ""), "\x00\x00\x01\x01\x00\x10?P\xb2"},
		{snap(3, 1, []int{1}, "b"), "\x03\x01\x01\x01\x01b\xaco\xb9u"},
		{snap(1000000, 100000, []int{1, 2, 3, 4}, "\x00\xff"), "\xc0\x84=\xa0\x8d\x06\x04\x01\x02\x03\x04\x02\x00\xff\xa3\xeb4\xb7"},
		{snap(127, 128, []int{2, 4}, "two words"), "\x7f\x80\x01\x02\x02\x04\x09two words\xde\xa0j\x8b"},
		{snap(128, 127, []int{4}, "s+"), "\x80\x01\x7f\x01\x04\x02s+%^1\xbc"},
		{snap(300, 7, []int{1, 3, 4}, strings.Repeat("abcdefghijklmnopqrstuvwxyz", 5)), "\xac\x02\x07\x03\x01\x03\x04\x82\x01" + strings.Repeat("abcdefghijklmnopqrstuvwxyz", 5) + "3\x8b\xb7\x16"},
	}
}

func TestSnapBytes(t *testing.T) {
	for _, c := range handSnaps() {
		if got, ok := impl.SnapText(c.snap); got != c.text || !ok {
			t.Errorf("SnapText(%s) = %q, %v, want %q", tellSnap(c.snap), got, ok, c.text)
		}
		wantReadSnap(t, c.text, c.snap, true)
		if got, ok := plainReadSnap(c.text); !sameSnap(got, c.snap) || !ok {
			t.Errorf("the test's own reader reads %q as %s, %v", c.text, tellSnap(got), ok)
		}
	}
}

// A right snapshot comes back from its text, every field.
func TestSnapsComeBack(t *testing.T) {
	for _, s := range rightSnaps() {
		if !plainSnapOk(s) {
			t.Fatalf("the test's own snapshot is not right: %s", tellSnap(s))
		}
		text, ok := impl.SnapText(s)
		if !ok || text != plainSnapText(s) {
			t.Fatalf("SnapText(%s) = %.60q, %v", tellSnap(s), text, ok)
		}
		wantReadSnap(t, text, s, true)
	}
}

func TestEachNumberOfSnapsComesBack(t *testing.T) {
	for n := 0; n <= 1000000; n += 37 {
		s := snap(n, n%100001, []int{1 + n%4}, "b")
		text, ok := impl.SnapText(s)
		if !ok {
			t.Fatalf("SnapText(%s) is false", tellSnap(s))
		}
		wantReadSnap(t, text, s, true)
	}
}

// Whatever the other fields have, Body has room just up to MaxText.
func TestSnapTextUpToMaxText(t *testing.T) {
	for _, index := range []int{0, 127, 128, 16383, 16384, 1000000} {
		for _, term := range []int{0, 127, 128, 16384, 100000} {
			for _, nodes := range someConfs() {
				for _, bytes := range []int{19999, 20000} {
					s := sizedSnap(t, index, term, nodes, bytes)
					text, ok := impl.SnapText(s)
					if len(text) != bytes || !ok {
						t.Fatalf("SnapText of %d bytes has %d, %v", bytes, len(text), ok)
					}
					wantReadSnap(t, text, s, true)
				}
				for _, bytes := range []int{20001, 20002, 20004, 20005} {
					s := sizedSnap(t, index, term, nodes, bytes)
					if text, ok := impl.SnapText(s); text != "" || ok {
						t.Fatalf("SnapText that would have %d bytes has %d, %v", bytes, len(text), ok)
					}
					refuseReadSnap(t, plainSnapText(s))
				}
			}
		}
	}
}

func TestSnapTextRefuses(t *testing.T) {
	for _, s := range wrongSnaps() {
		if plainSnapOk(s) {
			t.Fatalf("the test's own snapshot is not wrong: %s", tellSnap(s))
		}
		if text, ok := impl.SnapText(s); text != "" || ok {
			t.Errorf("SnapText(%s) = %.60q, %v, want nothing", tellSnap(s), text, ok)
		}
	}
}

// the texts of some short snapshots
func shortTexts() []string {
	var list []string
	for _, c := range handSnaps() {
		list = append(list, c.text)
	}
	for _, s := range []impl.Snap{snap(0, 0, []int{1, 2, 3, 4}, ""), snap(16384, 16383, []int{2, 3}, "\x00\x00"), snap(1, 2, []int{3}, longText(127)), snap(5, 5, []int{1, 4}, longText(128))} {
		list = append(list, plainSnapText(s))
	}
	return list
}

func TestReadSnapRefusesTurnedBytes(t *testing.T) {
	for _, text := range shortTexts() {
		for at := range len(text) {
			for mask := 1; mask < 256; mask++ {
				refuseReadSnap(t, turned(text, at, byte(mask)))
			}
		}
	}
	long := plainSnapText(sizedSnap(t, 900000, 90000, []int{1, 2, 3}, 20000))
	for at := 0; at < len(long); at += 97 {
		refuseReadSnap(t, turned(long, at, byte(1+at%255)))
	}
	for at := range 20 {
		for _, mask := range []byte{1, 128, 255} {
			refuseReadSnap(t, turned(long, at, mask))
			refuseReadSnap(t, turned(long, len(long)-1-at, mask))
		}
	}
}

func TestReadSnapRefusesOneByteMoreOrLess(t *testing.T) {
	refuseReadSnap(t, "")
	for _, text := range shortTexts() {
		for cut := range len(text) {
			refuseReadSnap(t, text[:cut])
			refuseReadSnap(t, text[cut+1:])
			refuseReadSnap(t, text[:cut]+text[cut+1:])
		}
		for b := range 256 {
			one := string([]byte{byte(b)})
			refuseReadSnap(t, text+one)
			refuseReadSnap(t, one+text)
			for at := 1; at < len(text); at += 5 {
				refuseReadSnap(t, text[:at]+one+text[at:])
			}
		}
		refuseReadSnap(t, text+text)
		refuseReadSnap(t, bitSealed(text))
		refuseReadSnap(t, text[:len(text)-4])
		refuseReadSnap(t, text+text[len(text)-4:])
	}
	long := plainSnapText(sizedSnap(t, 900000, 90000, []int{1, 2, 3}, 20000))
	for _, text := range []string{long + "x", long[1:], long[:19999], long + long, strings.Repeat("\x00", 20000), strings.Repeat("\xff", 20000), longText(20001), longText(1 << 20)} {
		refuseReadSnap(t, text)
	}
}

// Texts that are sealed, and whose inside is no snapshot's.
func TestReadSnapRefusesSealedOnes(t *testing.T) {
	inners := []string{
		"", "\x00", "\x07\x03", "\x07\x03\x01", "\x07\x03\x01\x01", "\x07\x03\x00", "\x07\x03\x00\x00", "\x07\x03\x01\x01\x01", "\x07\x03\x01\x01\x02b", "\x07\x03\x01\x01\x80\x01b",
		// a longer form of a number
		"\x87\x00\x03\x01\x01\x01b", "\x80\x00\x03\x01\x01\x01b", "\x87\x80\x00\x03\x01\x01\x01b", "\x07\x83\x00\x01\x01\x01b", "\x07\x80\x00\x01\x01\x01b", "\x07\x83\x80\x00\x01\x01\x01b",
		"\x07\x03\x81\x00\x01\x01b", "\x07\x03\x81\x80\x00\x01\x01b", "\x07\x03\x01\x01\x81\x00b", "\x07\x03\x01\x01\x81\x80\x00b", "\x07\x03\x01\x01\x80\x00", "\x80\x81\x00\x03\x01\x01\x01b",
		// no end of a number
		"\x87", "\x87\x87\x87\x87\x87\x87\x87\x87\x87\x87", "\xff\xff\xff\xff\xff\x01\x03\x01\x01\x01b", "\x07\xff\xff\xff\xff\xff\x01\x01\x01\x01b",
		// bytes behind the Body
		"\x07\x03\x01\x01\x01bb", "\x07\x03\x01\x01\x01b\x00", "\x07\x03\x01\x01\x00b", "\x07\x03\x01\x01\x00\x00", "\x07\x03\x01\x01\x01b\x07\x03\x01\x01\x01b",
		// another order
		"\x01\x01\x07\x03\x01b", "\x01b\x07\x03\x01\x01", "\x07\x03\x01b\x01\x01",
	}
	for _, index := range []int{1000001, 1000002, 2000000, 1<<21 - 1} {
		inners = append(inners, plainInner(index, 3, "\x01", "b"))
	}
	for _, term := range []int{100001, 100002, 1000000, 1<<21 - 1} {
		inners = append(inners, plainInner(7, term, "\x01", "b"))
	}
	most, _ := impl.VarText(impl.MaxNumber)
	inners = append(inners, most+"\x03\x01\x01\x01b", "\x07"+most+"\x01\x01\x01b", "\x07\x03"+most+"\x01b", "\x07\x03\x01\x01"+most+"b", "\xff\xff\xff\xff\x7f\x03\x01\x01\x01b")
	for _, nodes := range []string{"", "\x00", "\x05", "\xff", "1", "\x01\x01", "\x02\x01", "\x00\x01", "\x01\x05", "\x01\x02\x02", "\x04\x03", "\x01\x02\x03\x04\x05", "\x00\x01\x02\x03\x04", "\x01\x02\x03\x04\x04", "\x01\x02\x03\x04\x00", strings.Repeat("\x01", 200), longText(15000)} {
		inners = append(inners, plainInner(7, 3, nodes, "b"), plainInner(0, 0, nodes, ""))
	}
	for _, inner := range inners {
		if _, ok := plainReadSnap(bitSealed(inner)); ok {
			t.Fatalf("the test's own text is not wrong: %q", inner)
		}
		refuseReadSnap(t, bitSealed(inner))
	}
	wantReadSnap(t, bitSealed("\x07\x03\x01\x01\x01b"), snap(7, 3, []int{1}, "b"), true)
}

// each sealed text of few bytes, by the chapter's words
func TestReadSnapOfSmallTexts(t *testing.T) {
	right := 0
	for _, list := range listsOf([]int{0, 1, 2, 4, 5, 128, 129}, 6) {
		inner := make([]byte, 0, 6)
		for _, b := range list {
			inner = append(inner, byte(b))
		}
		text := bitSealed(string(inner))
		want, ok := plainReadSnap(text)
		wantReadSnap(t, text, want, ok)
		if ok {
			right++
		}
	}
	if right < 100 {
		t.Errorf("%d of the small texts alone are right", right)
	}
}

func TestSnapActsFixed(t *testing.T) {
	s := snap(3, 1, []int{1}, "b")
	text := "\x03\x01\x01\x01\x01b\xaco\xb9u"
	wantSnapActs(t, disk(), s, []impl.Act{add("s+", text), keep("s+"), move("s+", "s3")}, true)
	wantSnapActs(t, disk(file("s+", "", 0)), s, []impl.Act{drop("s+"), add("s+", text), keep("s+"), move("s+", "s3")}, true)
	wantSnapActs(t, disk(file("s2", "", 0)), s, []impl.Act{add("s+", text), keep("s+"), move("s+", "s3"), drop("s2")}, true)
	wantSnapActs(t, disk(file("s3", "any", 0)), s, []impl.Act{add("s+", text), keep("s+"), move("s+", "s3")}, true)
	wantSnapActs(t, disk(file("s3", text, len(text))), s, []impl.Act{add("s+", text), keep("s+"), move("s+", "s3")}, true)
	// newer ones, torn ones and the last index go as well, in the order of files
	wantSnapActs(t, disk(file("a", "", 0), file("s+", text, 2), file("s0", "", 0), file("s10", "x", 1), file("s1000000", "", 0), file("s2", "", 0), file("s3", "", 0), file("s30", "", 0), file("s9", text, 0), file("t", "", 0)), s,
		[]impl.Act{drop("s+"), add("s+", text), keep("s+"), move("s+", "s3"), drop("s0"), drop("s10"), drop("s1000000"), drop("s2"), drop("s30"), drop("s9")}, true)
	wantSnapActs(t, disk(file("s", "", 0), file("s01", "", 0), file("s1", "", 0)), snap(1000000, 100000, []int{1, 2, 3, 4}, "\x00\xff"),
		[]impl.Act{add("s+", "\xc0\x84=\xa0\x8d\x06\x04\x01\x02\x03\x04\x02\x00\xff\xa3\xeb4\xb7"), keep("s+"), move("s+", "s1000000"), drop("s1")}, true)
	// chunks of 60 bytes, the last one shorter
	long := handSnaps()[5]
	wantSnapActs(t, disk(), long.snap, []impl.Act{add("s+", long.text[:60]), add("s+", long.text[60:120]), add("s+", long.text[120:]), keep("s+"), move("s+", "s300")}, true)
}

func TestSnapChunks(t *testing.T) {
	for _, c := range []struct{ bytes, chunks, last int }{
		{9, 1, 9}, {10, 1, 10}, {58, 1, 58}, {59, 1, 59}, {60, 1, 60}, {61, 2, 1}, {62, 2, 2}, {119, 2, 59}, {120, 2, 60}, {121, 3, 1}, {180, 3, 60}, {240, 4, 60}, {241, 5, 1},
		{600, 10, 60}, {1000, 17, 40}, {19980, 333, 60}, {19981, 334, 1}, {20000, 334, 20},
	} {
		s := sizedSnap(t, 4, 1, []int{1}, c.bytes)
		acts, ok := impl.SnapActs(disk(), s)
		if !ok || len(acts) != c.chunks+2 {
			t.Fatalf("SnapActs of %d bytes = %d acts, %v, want %d", c.bytes, len(acts), ok, c.chunks+2)
		}
		text := ""
		for at, a := range acts[:c.chunks] {
			length := 60
			if at == c.chunks-1 {
				length = c.last
			}
			if a != add("s+", a.Text) || len(a.Text) != length {
				t.Errorf("SnapActs of %d bytes have %s at %d", c.bytes, tellActs(acts[at:at+1]), at)
			}
			text += a.Text
		}
		if text != plainSnapText(s) || acts[c.chunks] != keep("s+") || acts[c.chunks+1] != move("s+", "s4") {
			t.Errorf("SnapActs of %d bytes = %s", c.bytes, tellActs(acts))
		}
		want, _ := plainSnapActs(disk(), s)
		wantSnapActs(t, disk(), s, want, true)
		wantNewest(t, mustDo(t, disk(), acts), s, true)
	}
}

// disks on which a snapshot of the index 50 may be laid down, all of them right
func snapDisks() []impl.Disk {
	whole := func(index int) impl.File { return snapFile(snap(index, index/10, []int{1, 2}, longText(index*3))) }
	torn := func(index, left int) impl.File {
		f := whole(index)
		return file(f.Name, f.Text[:left], left)
	}
	unkept := func(f impl.File, kept int) impl.File { return file(f.Name, f.Text, kept) }
	lists := [][]impl.File{
		{},
		{whole(0)}, {whole(7)}, {whole(49)},
		{whole(7), whole(8), whole(12), whole(49)},
		{whole(7), torn(49, 20)}, {torn(7, 0)}, {whole(12), torn(13, 1), torn(14, 50), torn(51, 5)},
		{file("s+", "left", 0)}, {file("s+", "left", 4), whole(9)}, {file("s+", longText(20000), 3), whole(9), whole(10)}, {file("s+", "", 0)},
		{unkept(file("s+", plainSnapText(snap(60, 1, []int{1}, "never moved")), 0), 11), whole(9)},
		{whole(50)}, {whole(49), whole(50)}, {torn(50, 30), whole(7)}, {unkept(whole(50), 0)}, {file("s50", "", 0)},
		{file("s+", "left", 0), whole(0), whole(1), whole(2), whole(50), whole(5), whole(10)},
		{file("s48", plainSnapText(snap(47, 1, []int{1}, "of another name")), 5), whole(9)},
	}
	var list []impl.Disk
	for _, files := range lists {
		list = append(list, sortedDisk(files...), sortedDisk(append(slices.Clone(files), otherFiles()...)...))
	}
	return list
}

// Behind the acts it is the newest one, wholly kept, and no other is there; all other files are as they were.
func TestSnapActsDone(t *testing.T) {
	for _, d := range snapDisks() {
		for _, s := range []impl.Snap{snap(50, 5, []int{1, 2, 3}, ""), snap(50, 5, []int{4}, "b"), snap(50, 100000, []int{1, 2, 3, 4}, longText(500)), sizedSnap(t, 50, 5, []int{2}, 20000)} {
			want, right := plainSnapActs(d, s)
			wantSnapActs(t, d, s, want, right)
			behind := mustDo(t, d, want)
			wantNewest(t, behind, s, true)
			wantShed(t, behind)
			expected := sortedDisk(append(withoutSnaps(d), snapFile(s))...)
			if !sameDisk(behind, expected) {
				t.Fatalf("SnapActs(%s, %s) leave %s, want %s", tell(d), tellSnap(s), tell(behind), tell(expected))
			}
		}
	}
}

// one that is not newer is laid down all the same, and the newer ones go
func TestSnapActsOfAnOlderOne(t *testing.T) {
	for _, d := range snapDisks() {
		for _, index := range []int{0, 1, 8, 9, 10, 49, 1000000} {
			s := snap(index, 3, []int{2, 3}, "older")
			want, right := plainSnapActs(d, s)
			wantSnapActs(t, d, s, want, right)
			if behind := mustDo(t, d, want); !sameDisk(behind, sortedDisk(append(withoutSnaps(d), snapFile(s))...)) {
				t.Fatalf("SnapActs(%s, %s) leave %s", tell(d), tellSnap(s), tell(behind))
			}
		}
	}
}

// The words name no false for a disk that has no room, so that acts are told, and can't be done.
func TestSnapActsOnFullDisks(t *testing.T) {
	s := snap(3, 1, []int{1}, "b")
	for _, files := range []int{28, 29} {
		wantNewest(t, mustDo(t, manyFiles(files), mustSnapActs(t, manyFiles(files), s)), s, true)
		full := sortedDisk(append(manyFiles(files).Files, snapFile(snap(2, 1, []int{1}, "a")))...)
		acts := mustSnapActs(t, full, s)
		if _, n := impl.DoActs(full, acts); files == 28 && n != len(acts) || files == 29 && n != 0 {
			t.Errorf("%d of %s can be done on %d files", n, tellActs(acts), files+1)
		}
	}
	if _, n := impl.DoActs(manyFiles(30), mustSnapActs(t, manyFiles(30), s)); n != 0 {
		t.Errorf("%d acts can be done on a full disk", n)
	}
	left := sortedDisk(append(manyFiles(29).Files, file("s+", "left", 0))...)
	wantNewest(t, mustDo(t, left, mustSnapActs(t, left, s)), s, true)
}

func mustSnapActs(t *testing.T, d impl.Disk, s impl.Snap) []impl.Act {
	t.Helper()
	acts, ok := impl.SnapActs(d, s)
	if want, _ := plainSnapActs(d, s); !ok || !slices.Equal(acts, want) {
		t.Fatalf("SnapActs(%s, %s) = %s, %v", tell(d), tellSnap(s), tellActs(acts), ok)
	}
	return acts
}

func TestSnapActsRefuses(t *testing.T) {
	s := snap(3, 1, []int{1}, "b")
	f := snapFile(s)
	for _, d := range wrongDisks() {
		refuseSnapActs(t, d, s)
		refuseSnapActs(t, d, snap(0, 0, nil, ""))
		refuseSnapActs(t, disk(append([]impl.File{f}, d.Files...)...), s)
	}
	for _, d := range []impl.Disk{disk(file("s3", f.Text, -1)), disk(file("s3", f.Text, 11)), disk(f, f), disk(f, file("s2", "", 0)), disk(file("s3", "", 0), file("s+", "", 0)), disk(file("", "", 0), f)} {
		refuseSnapActs(t, d, s)
	}
	for _, wrong := range wrongSnaps() {
		for _, d := range []impl.Disk{disk(), disk(file("s+", "left", 0), f), disk(file("a", "1", 0), file("s2", "", 0))} {
			refuseSnapActs(t, d, wrong)
		}
	}
}

// behind ShedActs the newest one is the same, and there is no other
func shedAndLook(t *testing.T, lost impl.Disk, want impl.Snap) {
	t.Helper()
	wantNewest(t, lost, want, true)
	acts := impl.ShedActs(lost)
	behind := mustDo(t, lost, acts)
	wantNewest(t, behind, want, true)
	wantShed(t, behind)
	if expected := sortedDisk(append(withoutSnaps(lost), snapFile(want))...); !sameDisk(behind, expected) {
		t.Fatalf("ShedActs(%s) leave %s, want %s", tell(lost), tell(behind), tell(expected))
	}
	for whole := range len(acts) + 1 {
		again, ok := impl.CutActs(lost, acts, whole, nil)
		if !ok {
			t.Fatalf("CutActs(%s, %d) is false", tellActs(acts), whole)
		}
		wantNewest(t, again, want, true)
	}
}

// what the power may leave behind so many acts: of each file that is not kept as many bytes, and of one alone
func lostDisks(t *testing.T, d impl.Disk, acts []impl.Act, whole int) []impl.Disk {
	t.Helper()
	behind := mustDo(t, d, acts[:whole])
	longest := 0
	for _, f := range behind.Files {
		if f.Kept < len(f.Text) {
			longest = max(longest, len(f.Text))
		}
	}
	var list []impl.Disk
	lose := func(left []int) {
		lost, ok := impl.CutActs(d, acts, whole, left)
		if !ok {
			t.Fatalf("CutActs(%s, %d) is false", tellActs(acts), whole)
		}
		if len(list) == 0 || !sameDisk(lost, list[len(list)-1]) {
			list = append(list, lost)
		}
	}
	step := 1 + longest/300
	for left := 0; left <= longest; left += step {
		lose(slices.Repeat([]int{left}, 30))
	}
	for at, f := range behind.Files {
		left := make([]int, 30)
		left[at] = len(f.Text)
		lose(left)
	}
	lose(slices.Repeat([]int{20000}, 30))
	return list
}

// Whatever the power leaves of the acts of a newer one, at each place, the newest one is the old one or the new one.
func TestPowerGoesWithinSnapActs(t *testing.T) {
	cuts, olds := 0, 0
	for _, d := range snapDisks() {
		old, had := plainNewest(d)
		lost, _ := impl.LoseDisk(d, nil)
		// one that is not kept may be lost by itself, whatever the acts are
		if kept, _ := plainNewest(lost); had && !sameSnap(kept, old) {
			continue
		}
		for _, s := range []impl.Snap{snap(50, 5, []int{1, 2, 3}, ""), snap(50, 7, []int{4}, longText(130)), sizedSnap(t, 50, 9, []int{1, 4}, 120)} {
			acts := mustSnapActs(t, d, s)
			moved := slices.Index(acts, move("s+", "s50"))
			for whole := range len(acts) + 1 {
				for _, lost := range lostDisks(t, d, acts, whole) {
					cuts++
					switch {
					case whole > moved:
						shedAndLook(t, lost, s)
					case had:
						shedAndLook(t, lost, old)
						olds++
					default:
						refuseNewest(t, lost)
						wantShed(t, lost)
					}
				}
			}
		}
	}
	if cuts < 5000 || olds < 3000 {
		t.Errorf("the power went %d times alone, and left the old one %d times", cuts, olds)
	}
}

// the power goes at each place of a long one, too, of which a few beginnings are tried
func TestPowerGoesWithinALongSnap(t *testing.T) {
	old := sizedSnap(t, 999999, 4, []int{1}, 20000)
	now := sizedSnap(t, 1000000, 5, []int{1, 2}, 20000)
	d := sortedDisk(append(otherFiles(), snapFile(old), snapFile(snap(3, 1, []int{1}, "older")), file("s+", longText(19999), 7))...)
	acts := mustSnapActs(t, d, now)
	moved := slices.Index(acts, move("s+", "s1000000"))
	for whole := range len(acts) + 1 {
		for _, left := range []int{0, 1, 60, whole * 60 / 2, whole*60 - 61, whole*60 - 60, 19999, 20000} {
			lost, ok := impl.CutActs(d, acts, whole, slices.Repeat([]int{left}, 12))
			if !ok {
				t.Fatalf("CutActs behind %d is false", whole)
			}
			if whole > moved {
				wantNewest(t, lost, now, true)
			} else {
				wantNewest(t, lost, old, true)
			}
		}
	}
	behind, _ := impl.CutActs(d, acts, len(acts), nil)
	shedAndLook(t, behind, now)
}

// a life of snapshots, in which the power goes again and again
func TestManySnaps(t *testing.T) {
	d := draw(4242)
	from := sortedDisk(otherFiles()...)
	from, _ = impl.LoseDisk(from, nil)
	newest := snap(0, 0, []int{1}, "")
	from = mustDo(t, from, mustSnapActs(t, from, newest))
	kept, lost, shed := 0, 0, 0
	for range 1500 {
		next := snap(newest.Index+1+d.below(40), newest.Term+d.below(2), handConfs()[d.below(15)].conf, longText(d.below(400)))
		acts := mustSnapActs(t, from, next)
		whole := d.below(len(acts) + 1)
		if d.below(3) == 0 {
			whole = len(acts)
		}
		var left []int
		for range d.below(20) {
			left = append(left, d.below(500)-20)
		}
		cut, ok := impl.CutActs(from, acts, whole, left)
		if !ok {
			t.Fatalf("CutActs(%s, %d) is false", tellActs(acts), whole)
		}
		got, ok := impl.NewestSnap(cut)
		switch {
		case !ok || !sameSnap(got, newest) && !sameSnap(got, next):
			t.Fatalf("NewestSnap(%s) = %s, %v, and was %s", tell(cut), tellSnap(got), ok, tellSnap(newest))
		case sameSnap(got, next):
			kept++
		default:
			lost++
		}
		if d.below(2) == 0 {
			shed += len(impl.ShedActs(cut))
			cut = mustDo(t, cut, impl.ShedActs(cut))
		}
		newest, from = got, cut
	}
	if kept < 300 || lost < 300 || shed < 100 {
		t.Errorf("%d are kept, %d lost, %d files shed", kept, lost, shed)
	}
}

// names that only look like one of a snapshot, all of them ones that a file may have
func strangeSnapNames() []string {
	return []string{"s", "s01", "s00", "s007", "s-1", "s-0", "s+", "s+1", "s1000001", "s2000000", "s9999999", "S1", "s1 ", " s1", "s 1", "s1x", "ss1", "1", "s1.", "s1.0", "s1e2", "s0x1", "j1", "t1", "s１", "s\x001", "s1\x00", "s_1"}
}

func TestNewestSnapFixed(t *testing.T) {
	two, three, ten := snap(2, 1, []int{1}, "two"), snap(3, 1, []int{1, 2}, ""), snap(10, 2, []int{3}, "ten")
	wantNewest(t, disk(snapFile(three)), three, true)
	wantNewest(t, disk(snapFile(two), snapFile(three)), three, true)
	// the greatest index, not the last name
	wantNewest(t, disk(snapFile(ten), snapFile(two), snapFile(three)), ten, true)
	for _, c := range handSnaps() {
		wantNewest(t, disk(file("a", "", 0), file(fmt.Sprintf("s%d", c.snap.Index), c.text, 0), file("t", "x", 1)), c.snap, true)
	}
	// index 0 is one as well
	zero := snap(0, 0, []int{4}, "zero")
	wantNewest(t, disk(snapFile(zero)), zero, true)
	wantNewest(t, disk(snapFile(zero), file("s5", "torn", 4)), zero, true)
	last := snap(1000000, 100000, []int{1, 2, 3, 4}, "last")
	wantNewest(t, disk(snapFile(zero), snapFile(last), file("s1000001", plainSnapText(three), 0), snapFile(snap(999999, 4, []int{2}, ""))), last, true)
	// nothing is asked of what is kept
	for kept := range 11 {
		wantNewest(t, disk(file("s2", plainSnapText(two)[:5], 0), file("s3", "", 0), file("s7", plainSnapText(snap(7, 1, []int{1}, "b")), min(kept, 10))), snap(7, 1, []int{1}, "b"), true)
	}
}

func TestNewestSnapRefuses(t *testing.T) {
	s := snap(1, 1, []int{1}, "b")
	text := plainSnapText(s)
	refuseNewest(t, disk())
	refuseNewest(t, disk(file("a", text, 0)))
	for _, name := range strangeSnapNames() {
		refuseNewest(t, disk(file(name, text, len(text))))
		for _, index := range []int{0, 7, 1000000} {
			refuseNewest(t, disk(file(name, plainSnapText(snap(index, 1, []int{1}, "b")), 0)))
		}
	}
	for _, d := range wrongDisks() {
		refuseNewest(t, d)
		refuseNewest(t, disk(append([]impl.File{file("s1", text, len(text))}, d.Files...)...))
	}
	for _, d := range []impl.Disk{disk(file("s1", text, -1)), disk(file("s1", text, len(text)+1)), disk(file("s1", text, 0), file("s1", text, 0)), disk(file("s1", text, 0), file("a", "", 0)), disk(file("s1", text, 0), file("s+", "", 0)), disk(append([]impl.File{file("", "", 0)}, snapFile(s))...)} {
		refuseNewest(t, d)
		wantShed(t, d)
	}
	// of another index than the name
	for _, index := range []int{0, 2, 3, 10, 11, 128, 1000000} {
		refuseNewest(t, disk(file("s1", plainSnapText(snap(index, 1, []int{1}, "b")), 0)))
		refuseNewest(t, disk(file(fmt.Sprintf("s%d", index), text, 0)))
	}
	for cut := range len(text) {
		refuseNewest(t, disk(file("s1", text[:cut], cut)))
	}
	for at := range len(text) {
		refuseNewest(t, disk(file("s1", turned(text, at, 1), 0)))
	}
	refuseNewest(t, disk(file("s1", text+"x", 0)))
	refuseNewest(t, disk(file("s1", text+text, 0)))
}

// One that is torn, or of another index, is passed over: the older one counts.
func TestNewestSnapPassesTornOnes(t *testing.T) {
	old := snap(7, 2, []int{1, 3}, "old")
	for _, name := range []string{"s8", "s70", "s10", "s1000000", "s6", "s0"} {
		index := plainSnapIndex(name)
		text := plainSnapText(snap(index, 3, []int{1, 3}, "newer"))
		var bad []string
		for cut := range len(text) {
			bad = append(bad, text[:cut], turned(text, cut, 64))
		}
		bad = append(bad, text+"x", plainSnapText(snap(index-1, 3, []int{1, 3}, "newer")), plainSnapText(old), plainSnapText(snap(999999, 3, []int{1}, "")), longText(20000))
		for _, other := range bad {
			d := sortedDisk(snapFile(old), file(name, other, 0), file("s3", plainSnapText(snap(3, 1, []int{1}, "older")), 0))
			wantNewest(t, d, old, true)
			wantShed(t, d, slices.DeleteFunc([]impl.Act{drop("s0"), drop("s10"), drop("s1000000"), drop("s3"), drop("s6"), drop("s70"), drop("s8")}, func(a impl.Act) bool { return a.Name != "s3" && a.Name != name })...)
		}
	}
}

func TestShedActsFixed(t *testing.T) {
	two, three, ten := snap(2, 1, []int{1}, "two"), snap(3, 1, []int{1, 2}, ""), snap(10, 2, []int{3}, "ten")
	wantShed(t, disk(snapFile(three)))
	wantShed(t, disk(snapFile(two), snapFile(three)), drop("s2"))
	wantShed(t, disk(snapFile(ten), snapFile(two), snapFile(three)), drop("s2"), drop("s3"))
	wantShed(t, disk(file("s+", "left", 0), snapFile(three)), drop("s+"))
	wantShed(t, disk(file("a", "", 0), file("s+", "", 0), file("s0", "torn", 1), snapFile(ten), file("s11", "torn", 0), snapFile(two), file("s9", "", 0), file("t", "", 0)), drop("s+"), drop("s0"), drop("s11"), drop("s2"), drop("s9"))
	zero := snap(0, 0, []int{4}, "zero")
	wantShed(t, disk(snapFile(zero)))
	wantShed(t, disk(file("s+", plainSnapText(ten), 0), snapFile(zero), file("s1000000", "", 0)), drop("s+"), drop("s1000000"))
	// without a newest one nothing goes
	wantShed(t, disk())
	wantShed(t, disk(file("s+", "left", 0)))
	wantShed(t, disk(file("s+", plainSnapText(three), 0), file("s1", "torn", 0), file("s2", "", 0)))
	wantShed(t, disk(file("s+", "left", 0), file("s2", plainSnapText(three), 0)))
	for _, d := range append(rightDisks(), wrongDisks()...) {
		wantShed(t, d)
		wantShed(t, disk(append([]impl.File{file("s+", "left", 0)}, d.Files...)...))
	}
}

// names that only look like one of a snapshot are no snapshot's, and are not dropped
func TestSnapsPassStrangeNames(t *testing.T) {
	s := snap(1, 1, []int{1}, "b")
	text := plainSnapText(s)
	d := disk(file("s1", text, len(text)))
	for _, name := range strangeSnapNames() {
		if len(name) > 8 {
			t.Fatalf("the test's own name %q is too long", name)
		}
		if name != "s+" {
			d.Files = append(d.Files, file(name, text, 0))
		}
	}
	d = sortedDisk(d.Files...)
	wantNewest(t, d, s, true)
	wantShed(t, d)
	next := snap(2, 1, []int{1}, "b")
	wantSnapActs(t, d, next, []impl.Act{add("s+", plainSnapText(next)), keep("s+"), move("s+", "s2"), drop("s1")}, true)
}

// each index is found by its name, whatever stands beside it
func TestSnapsOfEachIndex(t *testing.T) {
	for index := 0; index <= 1000000; index += 617 {
		s := snap(index, 1, []int{1}, "b")
		files := []impl.File{snapFile(s)}
		var others []impl.Act
		for _, other := range []int{index / 10, index - 1, index - 1000} {
			name := fmt.Sprintf("s%d", other)
			if _, there := plainFile(disk(files...), name); other >= 0 && other < index && !there {
				files = append(files, snapFile(snap(other, 1, []int{1}, "older")))
			}
		}
		d := sortedDisk(files...)
		for _, f := range d.Files {
			if f.Name != files[0].Name {
				others = append(others, drop(f.Name))
			}
		}
		wantNewest(t, d, s, true)
		wantShed(t, d, others...)
	}
}

func drawnSnap(d *draw, index int) impl.Snap {
	return snap(index, d.below(300), handConfs()[d.below(15)].conf, longText(d.below(200)))
}

// a text for the file of this index: whole, of another index, torn, turned or with a byte too much
func drawnSnapText(d *draw, index int) string {
	text := plainSnapText(drawnSnap(d, index))
	switch d.below(8) {
	case 0:
		return plainSnapText(drawnSnap(d, d.below(12)))
	case 1:
		return text[:d.below(len(text))]
	case 2:
		return turned(text, d.below(len(text)), byte(1+d.below(255)))
	case 3:
		return text + longText(1+d.below(3))
	}
	return text
}

// disks drawn of snapshots, torn ones and others, by the chapter's words
func TestDrawnSnapDisks(t *testing.T) {
	d := draw(8)
	counts := map[string]int{}
	for range 6000 {
		var from impl.Disk
		for _, name := range []string{"a", "j+", "j0", "s", "s+", "s0", "s01", "s1", "s10", "s1000000", "s1000001", "s11", "s2", "s9", "t"} {
			if d.below(3) > 0 {
				continue
			}
			text := drawnSnapText(&d, max(plainSnapIndex(name), 0))
			from.Files = append(from.Files, file(name, text, d.below(len(text)+1)))
		}
		if d.below(30) == 0 {
			from.Files = append(from.Files, file("a", "", 0))
		}
		want, right := plainNewest(from)
		wantNewest(t, from, want, right)
		wantShed(t, from, plainShedActs(from)...)
		s := drawnSnap(&d, []int{0, 1, 5, 9, 10, 12, 999999, 1000000, 1000001}[d.below(9)])
		acts, ok := plainSnapActs(from, s)
		wantSnapActs(t, from, s, acts, ok)
		counts[fmt.Sprintf("newest %v, %d shed, acts %v", right, min(len(plainShedActs(from)), 3), ok)]++
		if right {
			wantShed(t, mustDo(t, from, plainShedActs(from)))
		}
		if ok {
			wantNewest(t, mustDo(t, from, acts), s, true)
		}
	}
	for _, kind := range []string{"newest true, 0 shed, acts true", "newest true, 1 shed, acts true", "newest true, 2 shed, acts true", "newest true, 3 shed, acts true", "newest true, 1 shed, acts false", "newest false, 0 shed, acts true", "newest false, 0 shed, acts false"} {
		if counts[kind] < 20 {
			t.Errorf("the drawn disks came to %q %d times alone", kind, counts[kind])
		}
	}
}

// No panic comes out, at any argument, and what is no snapshot is told as none.
func TestSnapsOfAnyBytes(t *testing.T) {
	d := draw(99)
	for range 20000 {
		text := make([]byte, d.below(40))
		for at := range text {
			text[at] = byte(d.below(256))
			if d.below(2) == 0 {
				text[at] = byte(d.below(5))
			}
		}
		for _, s := range []string{string(text), bitSealed(string(text))} {
			want, ok := plainReadSnap(s)
			wantReadSnap(t, s, want, ok)
			wantNewest(t, disk(file(fmt.Sprintf("s%d", want.Index), s, 0)), want, ok)
		}
	}
	for _, n := range []int{math.MinInt64, math.MinInt64 + 1, -1 << 32, -1, 0, 1, 1 << 31, 1 << 32, math.MaxInt64 - 1, math.MaxInt64} {
		for _, nodes := range [][]int{nil, {n}, {1}, {1, n}, {n, n, n, n, n, n}, make([]int, 1000)} {
			for _, s := range []impl.Snap{snap(n, 0, nodes, ""), snap(0, n, nodes, ""), snap(n, n, nodes, longText(30000))} {
				right := plainSnapOk(s)
				if _, ok := impl.SnapText(s); ok != right {
					t.Errorf("SnapText(%s) is %v", tellSnap(s), ok)
				}
				for _, from := range []impl.Disk{disk(), disk(file("s+", "", n)), disk(file("s0", longText(30000), n)), disk(make([]impl.File, 100)...)} {
					want, ok := plainSnapActs(from, s)
					wantSnapActs(t, from, s, want, ok)
					refuseNewest(t, from)
					wantShed(t, from)
				}
			}
		}
	}
}

func roomySnap(s impl.Snap) (impl.Snap, func() bool) {
	nodes, untouched := roomyNumbers(s.Conf)
	return snap(s.Index, s.Term, nodes, s.Body), untouched
}

func scribbleConf(nodes []int) {
	all := nodes[:cap(nodes)]
	for at := range all {
		all[at] = -77
	}
}

func TestSnapActsAreNewMemory(t *testing.T) {
	disks := append(append(snapDisks(), wrongDisks()...), rightDisks()...)
	for _, given := range []impl.Snap{snap(50, 5, []int{1, 2, 3}, "b"), snap(9, 5, []int{4}, longText(200)), snap(50, 5, []int{3, 2}, "b"), snap(-1, 5, []int{1}, "b")} {
		for _, from := range disks {
			d, diskUntouched := roomy(from)
			s, snapUntouched := roomySnap(given)
			look := func(what string) {
				t.Helper()
				if !diskUntouched() || !snapUntouched() {
					t.Fatalf("%s: something of %s, %s is changed", what, tell(from), tellSnap(given))
				}
			}
			impl.SnapText(s)
			first, ok := impl.SnapActs(d, s)
			second, again := impl.SnapActs(d, s)
			firstShed, secondShed := impl.ShedActs(d), impl.ShedActs(d)
			look("SnapActs")
			if ok != again || !slices.Equal(first, second) || !slices.Equal(firstShed, secondShed) {
				t.Fatalf("SnapActs(%s, %s) are answered in another way again", tell(from), tellSnap(given))
			}
			acts, shed := slices.Clone(second), slices.Clone(secondShed)
			scribbleActs(first)
			scribbleActs(firstShed)
			look("an answer of SnapActs")
			if !slices.Equal(second, acts) || !slices.Equal(secondShed, shed) {
				t.Fatalf("two answers of SnapActs(%s, %s) share memory", tell(from), tellSnap(given))
			}
			wantSnapActs(t, d, s, acts, ok)
			wantShed(t, d, shed...)
		}
	}
}

func TestSnapsAreNewMemory(t *testing.T) {
	for _, from := range append(append(snapDisks(), wrongDisks()...), rightDisks()...) {
		d, untouched := roomy(from)
		first, ok := impl.NewestSnap(d)
		second, again := impl.NewestSnap(d)
		if ok != again || !sameSnap(first, second) || !untouched() {
			t.Fatalf("NewestSnap(%s) writes into it, or is answered in another way again", tell(from))
		}
		kept := copySnap(second)
		scribbleConf(first.Conf)
		if !sameSnap(second, kept) || !untouched() {
			t.Fatalf("answers of NewestSnap(%s) share memory", tell(from))
		}
		wantNewest(t, d, kept, ok)
	}
	for _, text := range append(shortTexts(), "", "torn", bitSealed("\x07\x03\x01\x05\x01b")) {
		want, right := plainReadSnap(text)
		first, _ := impl.ReadSnap(text)
		second, _ := impl.ReadSnap(text)
		scribbleConf(first.Conf)
		if !sameSnap(second, want) {
			t.Fatalf("answers of ReadSnap(%q) share memory", text)
		}
		wantReadSnap(t, text, want, right)
	}
}

func TestSnapTextsAreNewMemory(t *testing.T) {
	s := snap(50, 5, []int{1, 2}, longText(200))
	old := plainSnapText(snap(49, 5, []int{1, 2}, longText(150)))
	d := disk(file(strings.Clone("s+"), longText(90), 0), file(strings.Clone("s3"), longText(80), 0), file(strings.Clone("s49"), old, len(old)))
	given := []string{s.Body, old}
	for _, f := range d.Files {
		given = append(given, f.Name, f.Text)
	}
	look := func(what string, texts ...string) {
		t.Helper()
		for _, got := range texts {
			for _, other := range given {
				if sharesBytes(got, other) {
					t.Errorf("%s answers bytes of an argument: %.8q", what, got)
				}
			}
		}
	}
	text, _ := impl.SnapText(s)
	again, _ := impl.SnapText(s)
	look("SnapText", text)
	if sharesBytes(text, again) {
		t.Error("two answers of SnapText share memory")
	}
	read, _ := impl.ReadSnap(old)
	reread, _ := impl.ReadSnap(old)
	look("ReadSnap", read.Body)
	if sharesBytes(read.Body, reread.Body) {
		t.Error("two answers of ReadSnap share memory")
	}
	newest, _ := impl.NewestSnap(d)
	look("NewestSnap", newest.Body)
	if newest.Body != longText(150) {
		t.Errorf("NewestSnap(%s) = %s", tell(d), tellSnap(newest))
	}
	acts := append(mustSnapActs(t, d, s), impl.ShedActs(d)...)
	if len(acts) != 11 {
		t.Errorf("%s", tellActs(acts))
	}
	for _, a := range acts {
		look("SnapActs", a.Name, a.Text, a.To)
	}
}
