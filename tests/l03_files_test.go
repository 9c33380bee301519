package tests

import (
	"fmt"
	"math"
	"slices"
	"strings"
	"testing"
	"unsafe"

	"loop.example/g00188/impl"
)

func file(name, text string, kept int) impl.File {
	return impl.File{Name: name, Text: text, Kept: kept}
}

func disk(files ...impl.File) impl.Disk {
	return impl.Disk{Files: files}
}

func sameDisk(a, b impl.Disk) bool {
	return slices.Equal(a.Files, b.Files)
}

func copyDisk(d impl.Disk) impl.Disk {
	return impl.Disk{Files: append([]impl.File(nil), d.Files...)}
}

// a disk in few letters, as a Text may be long
func tell(d impl.Disk) string {
	var out strings.Builder
	for at, f := range d.Files {
		if at == 4 {
			fmt.Fprintf(&out, " .. %d files", len(d.Files))
			break
		}
		fmt.Fprintf(&out, " [%.12q %.12q of %d bytes, %d kept]", f.Name, f.Text, len(f.Text), f.Kept)
	}
	return "disk" + out.String()
}

// n files with ascending Names, of which nothing, a part and all is kept in turn
func manyFiles(n int) impl.Disk {
	var d impl.Disk
	for at := range n {
		text := longText(at * 3 % 11)
		d.Files = append(d.Files, file(fmt.Sprintf("n%03d", at), text, at%3*len(text)/2))
	}
	return d
}

func rightDisks() []impl.Disk {
	longest := longText(impl.MaxText)
	list := []impl.Disk{
		disk(),
		{Files: []impl.File{}},
		disk(file("a", "", 0)),
		disk(file("a", "123", 0)),
		disk(file("a", "123", 1)),
		disk(file("a", "123", 3)),
		disk(file("a", "x", 0), file("b", "yz", 2)),
		disk(file("a", "", 0), file("aa", "12345", 2), file("b", "1", 1)),
		disk(file("A", "up", 1), file("a", "low", 2), file("\xff", "top", 0)),
		disk(file("\x00", "12", 2), file("\x00\x00", "34", 1), file(" ", "\x00\xff", 0)),
		disk(file(strings.Repeat("n", impl.MaxName-1), "12", 1), file(strings.Repeat("n", impl.MaxName), "34", 2)),
		disk(file("l", longest, 0)),
		disk(file("l", longest, 7), file("m", longest, impl.MaxText-1), file("n", longest, impl.MaxText)),
		disk(file("b", "not kept", 0), file("c", "a part is", 6), file("d", "all is", 6), file("e", "", 0)),
	}
	for _, n := range []int{2, 5, impl.MaxFiles - 1, impl.MaxFiles} {
		list = append(list, manyFiles(n))
	}
	return list
}

func wrongDisks() []impl.Disk {
	tooLong := longText(impl.MaxText + 1)
	list := []impl.Disk{
		manyFiles(impl.MaxFiles + 1),
		manyFiles(3 * impl.MaxFiles),
		disk(file("a", "1", 0), file("a", "2", 0)),
		disk(file("a", "1", 1), file("a", "1", 1)),
		disk(file("b", "1", 0), file("a", "2", 0)),
		disk(file("aa", "1", 0), file("a", "2", 0)),
		disk(file("\xff", "1", 0), file("a", "2", 0)),
		disk(file("a", "", 0), file("c", "", 0), file("b", "", 0)),
		disk(file("a", "", 0), file("b", "", 0), file("a", "", 0)),
		disk(file("", "1", 0)),
		disk(file("", "", 0), file("a", "", 0)),
		disk(file("123456789", "1", 1)),
		disk(file("1", "1", 1), file(strings.Repeat("n", impl.MaxName+1), "1", 1)),
		disk(file(strings.Repeat("n", 300), "", 0)),
		disk(file("a", tooLong, 0)),
		disk(file("a", tooLong, impl.MaxText+1)),
		disk(file("a", "", 0), file("b", tooLong, 5)),
		disk(file("a", "123", -1)),
		disk(file("a", "", -1)),
		disk(file("a", "123", math.MinInt64)),
		disk(file("a", "123", 4)),
		disk(file("a", "", 1)),
		disk(file("a", "123", math.MaxInt64)),
		disk(file("a", "1", 1), file("b", "1", 2), file("c", "1", 1)),
		disk(file("a", "1", -1), file("b", "1", 1)),
	}
	return list
}

func TestFilesConstants(t *testing.T) {
	got := []int{impl.MaxFiles, impl.MaxName, impl.ActAdd, impl.ActKeep, impl.ActMove, impl.ActDrop}
	if want := []int{30, 8, 1, 2, 3, 4}; !slices.Equal(got, want) {
		t.Errorf("constants %v, want %v", got, want)
	}
}

func TestDiskOk(t *testing.T) {
	for _, d := range rightDisks() {
		if !impl.DiskOk(d) {
			t.Errorf("DiskOk is false of %s", tell(d))
		}
	}
	for _, d := range wrongDisks() {
		if impl.DiskOk(d) {
			t.Errorf("DiskOk is true of %s", tell(d))
		}
	}
}

// One wrong file makes the disk wrong at whatever place it stands.
func TestDiskOkLooksAtEachPlace(t *testing.T) {
	for at := range impl.MaxFiles {
		for _, change := range []func(f *impl.File){
			func(f *impl.File) { f.Kept = -1 },
			func(f *impl.File) { f.Kept = len(f.Text) + 1 },
			func(f *impl.File) { f.Name = "" },
			func(f *impl.File) { f.Name += "67890" },
			func(f *impl.File) { f.Text = longText(impl.MaxText + 1) },
		} {
			d := manyFiles(impl.MaxFiles)
			change(&d.Files[at])
			if impl.DiskOk(d) {
				t.Fatalf("DiskOk is true with a wrong file at the place %d: %+v", at, d.Files[at].Name)
			}
			if impl.AllKept(d) {
				t.Fatalf("AllKept is true with a wrong file at the place %d", at)
			}
		}
		if at == 0 {
			continue
		}
		d := manyFiles(impl.MaxFiles)
		d.Files[at].Name = d.Files[at-1].Name
		if impl.DiskOk(d) {
			t.Fatalf("DiskOk is true with the same Name at the places %d and %d", at-1, at)
		}
		d = manyFiles(impl.MaxFiles)
		d.Files[at], d.Files[at-1] = d.Files[at-1], d.Files[at]
		if impl.DiskOk(d) {
			t.Fatalf("DiskOk is true with the places %d and %d changed over", at-1, at)
		}
	}
}

func TestFileAt(t *testing.T) {
	for _, d := range rightDisks() {
		for _, f := range d.Files {
			if got, ok := impl.FileAt(d, f.Name); got != f.Text || !ok {
				t.Errorf("FileAt(%s, %q) = %.20q, %v", tell(d), f.Name, got, ok)
			}
		}
		for _, name := range []string{"", "none", "z", "A1", "n0", "n0000", "n030", "123456789"} {
			if got, ok := impl.FileAt(d, name); got != "" || ok {
				t.Errorf("FileAt(%s, %q) = %.20q, %v, want none", tell(d), name, got, ok)
			}
		}
	}
}

// FileAt asks for no right disk: it is the first file of the Name that counts.
func TestFileAtOfWrongDisks(t *testing.T) {
	for _, d := range wrongDisks() {
		seen := map[string]bool{}
		for _, f := range d.Files {
			if seen[f.Name] {
				continue
			}
			seen[f.Name] = true
			if got, ok := impl.FileAt(d, f.Name); got != f.Text || !ok {
				t.Errorf("FileAt(%s, %.12q) = %.20q, %v", tell(d), f.Name, got, ok)
			}
		}
		if got, ok := impl.FileAt(d, "none"); got != "" || ok {
			t.Errorf("FileAt(%s, none) = %.20q, %v", tell(d), got, ok)
		}
	}
	if got, ok := impl.FileAt(disk(file("a", "1", 0), file("a", "2", 0)), "a"); got != "1" || !ok {
		t.Errorf("FileAt of a Name that is there twice = %q, %v", got, ok)
	}
}

// a right disk by the chapter's own words
func plainRight(d impl.Disk) bool {
	for at, f := range d.Files {
		if len(f.Name) == 0 || len(f.Name) > 8 || len(f.Text) > 20000 || f.Kept < 0 || f.Kept > len(f.Text) {
			return false
		}
		for _, g := range d.Files[:at] {
			if g.Name >= f.Name {
				return false
			}
		}
	}
	return len(d.Files) <= 30
}

// DoAct by the chapter's own words: on the list itself, and looked at when it is done
func plainAct(d impl.Disk, a impl.Act) (impl.Disk, bool) {
	none := impl.Disk{}
	out := copyDisk(d)
	find := func(name string) int {
		return slices.IndexFunc(out.Files, func(f impl.File) bool { return f.Name == name })
	}
	at := find(a.Name)
	if !plainRight(d) || a.Kind < 1 || a.Kind > 4 || a.Kind != 1 && at < 0 || a.Kind != 1 && a.Text != "" || a.Kind != 3 && a.To != "" {
		return none, false
	}
	switch a.Kind {
	case 1:
		if at < 0 {
			at = len(out.Files)
			out.Files = append(out.Files, file(a.Name, "", 0))
		}
		out.Files[at].Text += a.Text
	case 2:
		out.Files[at].Kept = len(out.Files[at].Text)
	case 3:
		if a.To == a.Name || out.Files[at].Kept < len(out.Files[at].Text) {
			return none, false
		}
		out.Files[at].Name = ""
		if old := find(a.To); old >= 0 && a.To != "" {
			out.Files = slices.Delete(out.Files, old, old+1)
		}
		out.Files[find("")].Name = a.To
	case 4:
		out.Files = slices.Delete(out.Files, at, at+1)
	}
	slices.SortFunc(out.Files, func(f, g impl.File) int { return strings.Compare(f.Name, g.Name) })
	if !plainRight(out) {
		return none, false
	}
	return out, true
}

func wantAct(t *testing.T, d impl.Disk, a impl.Act, want impl.Disk) {
	t.Helper()
	if got, ok := impl.DoAct(d, a); !sameDisk(got, want) || !ok {
		t.Errorf("DoAct(%s, %d %.12q %.12q %.12q) = %s, %v, want %s", tell(d), a.Kind, a.Name, a.Text, a.To, tell(got), ok, tell(want))
	}
}

func refuseAct(t *testing.T, d impl.Disk, a impl.Act) {
	t.Helper()
	if got, ok := impl.DoAct(d, a); len(got.Files) != 0 || ok {
		t.Fatalf("DoAct(%s, %d %.12q %.12q %.12q) = %s, %v, want none", tell(d), a.Kind, a.Name, a.Text, a.To, tell(got), ok)
	}
	if got, n := impl.DoActs(d, []impl.Act{a}); !sameDisk(got, d) || n != 0 {
		t.Fatalf("DoActs(%s, one that is false) = %s, %d, want it as it was", tell(d), tell(got), n)
	}
	if got, ok := impl.CutActs(d, []impl.Act{a}, 1, []int{9, 9, 9}); len(got.Files) != 0 || ok {
		t.Fatalf("CutActs(%s, one that is false) = %s, %v, want none", tell(d), tell(got), ok)
	}
}

func add(name, text string) impl.Act { return impl.Act{Kind: impl.ActAdd, Name: name, Text: text} }
func keep(name string) impl.Act      { return impl.Act{Kind: impl.ActKeep, Name: name} }
func move(name, to string) impl.Act  { return impl.Act{Kind: impl.ActMove, Name: name, To: to} }
func drop(name string) impl.Act      { return impl.Act{Kind: impl.ActDrop, Name: name} }

func TestAdd(t *testing.T) {
	d := disk(file("b", "123", 1), file("d", "", 0), file("f", "xy", 2))
	wantAct(t, d, add("b", "45"), disk(file("b", "12345", 1), file("d", "", 0), file("f", "xy", 2)))
	wantAct(t, d, add("b", ""), d)
	wantAct(t, d, add("d", "\x00\xff"), disk(file("b", "123", 1), file("d", "\x00\xff", 0), file("f", "xy", 2)))
	wantAct(t, d, add("f", "z"), disk(file("b", "123", 1), file("d", "", 0), file("f", "xyz", 2)))
	wantAct(t, d, add("a", "new"), disk(file("a", "new", 0), file("b", "123", 1), file("d", "", 0), file("f", "xy", 2)))
	wantAct(t, d, add("c", "new"), disk(file("b", "123", 1), file("c", "new", 0), file("d", "", 0), file("f", "xy", 2)))
	wantAct(t, d, add("bb", ""), disk(file("b", "123", 1), file("bb", "", 0), file("d", "", 0), file("f", "xy", 2)))
	wantAct(t, d, add("g", "new"), disk(file("b", "123", 1), file("d", "", 0), file("f", "xy", 2), file("g", "new", 0)))
	wantAct(t, disk(), add("a", "1"), disk(file("a", "1", 0)))
	wantAct(t, disk(), add("12345678", ""), disk(file("12345678", "", 0)))
	refuseAct(t, d, add("", "1"))
	refuseAct(t, d, add("123456789", "1"))
	refuseAct(t, d, impl.Act{Kind: impl.ActAdd, Name: "b", Text: "1", To: "c"})
	refuseAct(t, d, impl.Act{Kind: impl.ActAdd, Name: "b", Text: "1", To: "b"})
	refuseAct(t, d, impl.Act{Kind: impl.ActAdd, Name: "new", To: "c"})
}

func TestKeep(t *testing.T) {
	d := disk(file("b", "123", 1), file("d", "", 0), file("f", "xy", 2), file("h", "z", 0))
	wantAct(t, d, keep("b"), disk(file("b", "123", 3), file("d", "", 0), file("f", "xy", 2), file("h", "z", 0)))
	wantAct(t, d, keep("d"), d)
	wantAct(t, d, keep("f"), d)
	wantAct(t, d, keep("h"), disk(file("b", "123", 1), file("d", "", 0), file("f", "xy", 2), file("h", "z", 1)))
	for _, name := range []string{"", "a", "c", "bb", "i", "123456789"} {
		refuseAct(t, d, keep(name))
		refuseAct(t, disk(), keep(name))
	}
	refuseAct(t, d, impl.Act{Kind: impl.ActKeep, Name: "b", Text: "1"})
	refuseAct(t, d, impl.Act{Kind: impl.ActKeep, Name: "b", To: "c"})
	refuseAct(t, d, impl.Act{Kind: impl.ActKeep, Name: "b", To: "b"})
}

func TestMove(t *testing.T) {
	d := disk(file("b", "123", 1), file("d", "", 0), file("f", "xy", 2), file("h", "z", 1))
	wantAct(t, d, move("f", "a"), disk(file("a", "xy", 2), file("b", "123", 1), file("d", "", 0), file("h", "z", 1)))
	wantAct(t, d, move("f", "z"), disk(file("b", "123", 1), file("d", "", 0), file("h", "z", 1), file("z", "xy", 2)))
	wantAct(t, d, move("f", "b"), disk(file("b", "xy", 2), file("d", "", 0), file("h", "z", 1)))
	wantAct(t, d, move("f", "h"), disk(file("b", "123", 1), file("d", "", 0), file("h", "xy", 2)))
	wantAct(t, d, move("d", "b"), disk(file("b", "", 0), file("f", "xy", 2), file("h", "z", 1)))
	wantAct(t, d, move("d", "12345678"), disk(file("12345678", "", 0), file("b", "123", 1), file("f", "xy", 2), file("h", "z", 1)))
	wantAct(t, disk(file("b", "12", 2)), move("b", "c"), disk(file("c", "12", 2)))
	for _, to := range []string{"a", "d", "f", "z"} {
		refuseAct(t, d, move("b", to))
		refuseAct(t, d, move("none", to))
		refuseAct(t, d, move("", to))
		refuseAct(t, disk(), move("a", to))
		refuseAct(t, d, impl.Act{Kind: impl.ActMove, Name: "f", Text: "1", To: to})
	}
	for _, to := range []string{"", "f", "123456789"} {
		refuseAct(t, d, move("f", to))
	}
	refuseAct(t, disk(file("a", "", 0)), move("a", "a"))
	refuseAct(t, disk(file("a", "12", 1)), move("a", "b"))
	refuseAct(t, disk(file("a", "12", 0)), move("a", "b"))
}

func TestDrop(t *testing.T) {
	d := disk(file("b", "123", 1), file("d", "", 0), file("f", "xy", 2))
	wantAct(t, d, drop("b"), disk(file("d", "", 0), file("f", "xy", 2)))
	wantAct(t, d, drop("d"), disk(file("b", "123", 1), file("f", "xy", 2)))
	wantAct(t, d, drop("f"), disk(file("b", "123", 1), file("d", "", 0)))
	wantAct(t, disk(file("a", "1", 0)), drop("a"), disk())
	for _, name := range []string{"", "a", "c", "bb", "g", "123456789"} {
		refuseAct(t, d, drop(name))
		refuseAct(t, disk(), drop(name))
	}
	refuseAct(t, d, impl.Act{Kind: impl.ActDrop, Name: "b", Text: "1"})
	refuseAct(t, d, impl.Act{Kind: impl.ActDrop, Name: "b", To: "c"})
	refuseAct(t, d, impl.Act{Kind: impl.ActDrop, Name: "b", To: "b"})
}

func TestActsOfNoKind(t *testing.T) {
	for _, d := range []impl.Disk{disk(), disk(file("a", "12", 2)), disk(file("a", "12", 1), file("b", "", 0)), manyFiles(impl.MaxFiles)} {
		for _, kind := range []int{0, -1, 5, 6, 7, 257, 1 << 32, 1<<32 + 1, math.MinInt64, math.MaxInt64} {
			for _, name := range []string{"", "a", "b", "n001"} {
				refuseAct(t, d, impl.Act{Kind: kind, Name: name})
				refuseAct(t, d, impl.Act{Kind: kind, Name: name, Text: "1"})
				refuseAct(t, d, impl.Act{Kind: kind, Name: name, To: "c"})
				refuseAct(t, d, impl.Act{Kind: kind, Name: name, Text: "1", To: "c"})
			}
		}
	}
}

func TestActsOfAFullDisk(t *testing.T) {
	full := manyFiles(impl.MaxFiles)
	for _, name := range []string{"a", "n0005", "z"} {
		refuseAct(t, full, add(name, "1"))
		refuseAct(t, full, add(name, ""))
		refuseAct(t, full, keep(name))
		refuseAct(t, full, move(name, "b"))
		refuseAct(t, full, drop(name))
		one, ok := impl.DoAct(manyFiles(impl.MaxFiles-1), add(name, "1"))
		if len(one.Files) != impl.MaxFiles || !ok || !impl.DiskOk(one) {
			t.Errorf("the last file that has room: %s, %v", tell(one), ok)
		}
	}
	for at, f := range full.Files {
		wantAct(t, full, drop(f.Name), impl.Disk{Files: slices.Delete(copyDisk(full).Files, at, at+1)})
		more := copyDisk(full)
		more.Files[at].Text += "more"
		wantAct(t, full, add(f.Name, "more"), more)
		kept := copyDisk(full)
		kept.Files[at].Kept = len(f.Text)
		wantAct(t, full, keep(f.Name), kept)
		moved := disk(slices.Delete(copyDisk(kept).Files, at, at+1)...)
		moved.Files = append(moved.Files, file("z", f.Text, len(f.Text)))
		wantAct(t, kept, move(f.Name, "z"), moved)
		if at > 0 {
			over := copyDisk(kept)
			over.Files[0] = file(over.Files[0].Name, f.Text, len(f.Text))
			over.Files = slices.Delete(over.Files, at, at+1)
			wantAct(t, kept, move(f.Name, full.Files[0].Name), over)
		}
	}
}

func TestLimitOfText(t *testing.T) {
	longest := longText(impl.MaxText)
	for _, has := range []int{0, 1, 100, impl.MaxText - 1, impl.MaxText} {
		for _, kept := range []int{0, has / 2, has} {
			d := disk(file("a", longest[:has], kept), file("b", longest, 5))
			wantAct(t, d, add("a", longest[has:]), disk(file("a", longest, kept), file("b", longest, 5)))
			refuseAct(t, d, add("a", longest[has:]+"1"))
			refuseAct(t, d, add("a", longest+"1"))
			refuseAct(t, d, add("b", "1"))
			wantAct(t, d, add("b", ""), d)
		}
	}
	wantAct(t, disk(), add("new", longest), disk(file("new", longest, 0)))
	refuseAct(t, disk(), add("new", longest+"1"))
	wantAct(t, disk(file("a", longest, 3)), keep("a"), disk(file("a", longest, impl.MaxText)))
	wantAct(t, disk(file("a", longest, impl.MaxText)), move("a", "b"), disk(file("b", longest, impl.MaxText)))
}

func someActs() []impl.Act {
	var list []impl.Act
	names := []string{"", "a", "b", "bb", "c", "d", "n001", "n029", "n030", "12345678", "123456789"}
	for kind := -1; kind <= 6; kind++ {
		for _, name := range names {
			for _, text := range []string{"", "1", "more"} {
				for _, to := range names {
					list = append(list, impl.Act{Kind: kind, Name: name, Text: text, To: to})
				}
			}
		}
	}
	return list
}

func TestActsByTheWords(t *testing.T) {
	disks := append(append(rightDisks(), wrongDisks()...),
		disk(file("a", "1", 1), file("b", "22", 2), file("c", "333", 3)),
		disk(file("a", "1", 0), file("b", "22", 1), file("c", "333", 2)),
		disk(file("12345678", "8", 1), file("b", "", 0), file("bb", "4444", 4)))
	for _, d := range disks {
		for _, a := range someActs() {
			want, right := plainAct(d, a)
			got, ok := impl.DoAct(d, a)
			if !sameDisk(got, want) || ok != right {
				t.Fatalf("DoAct(%s, %+v) = %s, %v, want %s, %v", tell(d), a, tell(got), ok, tell(want), right)
			}
			if ok && !impl.DiskOk(got) {
				t.Fatalf("DoAct(%s, %+v) = %s, which is not right", tell(d), a, tell(got))
			}
		}
	}
}

func TestWrongDisksAreRefused(t *testing.T) {
	for _, d := range wrongDisks() {
		name := d.Files[0].Name
		for _, a := range []impl.Act{add("a", "1"), add("z", ""), add(name, ""), keep(name), move(name, "z"), drop(name), drop("a"), {}} {
			refuseAct(t, d, a)
			if got, n := impl.DoActs(d, []impl.Act{a, add("y", "1"), a}); !sameDisk(got, d) || n != 0 {
				t.Errorf("DoActs(%s, three) = %s, %d", tell(d), tell(got), n)
			}
		}
		if got, n := impl.DoActs(d, nil); !sameDisk(got, d) || n != 0 {
			t.Errorf("DoActs(%s, none) = %s, %d", tell(d), tell(got), n)
		}
		for _, left := range [][]int{nil, {0}, {1, 2, 3}, {-1}, {30000, 30000, 30000}} {
			if got, ok := impl.LoseDisk(d, left); len(got.Files) != 0 || ok {
				t.Errorf("LoseDisk(%s, %v) = %s, %v", tell(d), left, tell(got), ok)
			}
			if got, ok := impl.CutActs(d, nil, 0, left); len(got.Files) != 0 || ok {
				t.Errorf("CutActs(%s, none, 0, %v) = %s, %v", tell(d), left, tell(got), ok)
			}
			if got, ok := impl.CutActs(d, []impl.Act{drop(name)}, 0, left); len(got.Files) != 0 || ok {
				t.Errorf("CutActs(%s, one, 0, %v) = %s, %v", tell(d), left, tell(got), ok)
			}
		}
		if impl.AllKept(d) {
			t.Errorf("AllKept is true of %s", tell(d))
		}
	}
}

// numbers that are drawn, the same ones in each run
type draw uint64

func (d *draw) below(n int) int {
	*d = *d*6364136223846793005 + 1442695040888963407
	return int(uint64(*d) >> 33 % uint64(n))
}

func drawnAct(d *draw) impl.Act {
	names := []string{"a", "b", "c", "d", "e"}
	name, to := names[d.below(5)], names[d.below(5)]
	switch d.below(9) {
	case 0, 1, 2, 3:
		return add(name, longText(d.below(6)))
	case 4, 5:
		return keep(name)
	case 6, 7:
		return move(name, to)
	}
	return drop(name)
}

func drawnActs(d *draw, n int) []impl.Act {
	var list []impl.Act
	for range n {
		list = append(list, drawnAct(d))
	}
	return list
}

// a list of acts that are true one after the other, from this disk on
func trueActs(d *draw, from impl.Disk, n int) []impl.Act {
	var list []impl.Act
	for len(list) < n {
		a := drawnAct(d)
		if next, ok := plainAct(from, a); ok {
			from = next
			list = append(list, a)
		}
	}
	return list
}

func TestDoActsIsDoActOfEach(t *testing.T) {
	d := draw(1)
	counts := map[int]int{}
	for round := range 3000 {
		from := disk(file("b", "12", round%3), file("d", "345", 3))
		list := append(trueActs(&d, from, d.below(8)), drawnActs(&d, d.below(5))...)
		want, n := from, 0
		for _, a := range list {
			next, ok := impl.DoAct(want, a)
			if plain, right := plainAct(want, a); !sameDisk(next, plain) || ok != right {
				t.Fatalf("DoAct(%s, %+v) = %s, %v", tell(want), a, tell(next), ok)
			}
			if !ok {
				break
			}
			want = next
			n++
		}
		got, done := impl.DoActs(from, list)
		if !sameDisk(got, want) || done != n {
			t.Fatalf("DoActs(%s, %+v) = %s, %d, want %s, %d", tell(from), list, tell(got), done, tell(want), n)
		}
		if !impl.DiskOk(got) {
			t.Fatalf("DoActs(%s, %+v) = %s, which is not right", tell(from), list, tell(got))
		}
		counts[len(list)-done]++
	}
	if counts[0] < 100 || len(counts) < 4 {
		t.Errorf("too few kinds of lists are drawn: %v", counts)
	}
}

func TestDoActsStops(t *testing.T) {
	d := disk(file("a", "12", 1))
	behind := disk(file("a", "123", 1), file("b", "4", 0))
	for _, wrong := range []impl.Act{{}, move("a", "c"), keep("c"), drop("c"), add("", "1"), add("a", longText(impl.MaxText))} {
		list := []impl.Act{add("a", "3"), add("b", "4"), wrong, add("a", "5"), drop("b")}
		if got, n := impl.DoActs(d, list); !sameDisk(got, behind) || n != 2 {
			t.Errorf("DoActs that stops at %d %.12q = %s, %d", wrong.Kind, wrong.Name, tell(got), n)
		}
		if got, n := impl.DoActs(d, list[2:]); !sameDisk(got, d) || n != 0 {
			t.Errorf("DoActs that stops at the first = %s, %d", tell(got), n)
		}
	}
	if got, n := impl.DoActs(d, nil); !sameDisk(got, d) || n != 0 {
		t.Errorf("DoActs of none = %s, %d", tell(got), n)
	}
	if got, n := impl.DoActs(disk(), []impl.Act{}); len(got.Files) != 0 || n != 0 {
		t.Errorf("DoActs of none on an empty disk = %s, %d", tell(got), n)
	}
	list := []impl.Act{add("new", "12"), keep("new"), move("new", "a"), add("a", "3"), drop("a"), add("a", "x")}
	if got, n := impl.DoActs(d, list); !sameDisk(got, disk(file("a", "x", 0))) || n != 6 {
		t.Errorf("DoActs of six = %s, %d", tell(got), n)
	}
}

// More acts than a disk has files, and more than one file can take.
func TestDoActsUpToTheLimits(t *testing.T) {
	var list []impl.Act
	for at := range impl.MaxFiles + 5 {
		list = append(list, add(fmt.Sprintf("f%d", at), "1"))
	}
	if got, n := impl.DoActs(disk(), list); len(got.Files) != impl.MaxFiles || n != impl.MaxFiles || !impl.DiskOk(got) {
		t.Errorf("DoActs of too many files = %s, %d", tell(got), n)
	}
	list = nil
	for range 25 {
		list = append(list, add("a", longText(1000)))
	}
	if got, n := impl.DoActs(disk(), list); !sameDisk(got, disk(file("a", strings.Repeat(longText(1000), 20), 0))) || n != 20 {
		t.Errorf("DoActs of too many bytes = %s, %d", tell(got), n)
	}
}

// LoseDisk by the chapter's own words
func plainLost(d impl.Disk, left []int) impl.Disk {
	var out impl.Disk
	for at, f := range d.Files {
		text := ""
		for place := range len(f.Text) {
			if place < f.Kept || at < len(left) && place < left[at] {
				text += f.Text[place : place+1]
			}
		}
		out.Files = append(out.Files, file(f.Name, text, len(text)))
	}
	return out
}

// what promise 3 says of a disk and what is left of it
func keepPromise(t *testing.T, d, lost impl.Disk) {
	t.Helper()
	if len(lost.Files) != len(d.Files) {
		t.Fatalf("of %s %d files are left", tell(d), len(lost.Files))
	}
	for at, f := range d.Files {
		g := lost.Files[at]
		if g.Name != f.Name || !strings.HasPrefix(f.Text, g.Text) || len(g.Text) < f.Kept || g.Kept != len(g.Text) {
			t.Fatalf("of %s at the place %d is left %s", tell(d), at, tell(disk(g)))
		}
	}
	if !impl.DiskOk(lost) || !impl.AllKept(lost) {
		t.Fatalf("of %s is left %s, not all kept", tell(d), tell(lost))
	}
	for _, left := range [][]int{nil, {}, {0}, {-1, -1}, {0, 0, 0, 0, 0}} {
		if again, ok := impl.LoseDisk(lost, left); !sameDisk(again, lost) || !ok {
			t.Fatalf("%s lost once more = %s, %v", tell(lost), tell(again), ok)
		}
	}
}

// Each number at each place, from below 0 to beyond the longest text, the other places told or not.
func TestLoseDiskOfEachNumber(t *testing.T) {
	for _, d := range rightDisks() {
		longest := 0
		for _, f := range d.Files {
			longest = max(longest, len(f.Text))
		}
		if longest > 300 {
			continue
		}
		for n := -3; n <= longest+3; n++ {
			for at := range len(d.Files) + 2 {
				for _, other := range []int{-1, 0, 1, 2, 100} {
					left := slices.Repeat([]int{other}, at+1)
					left[at] = n
					loseAndLook(t, d, left)
					loseAndLook(t, d, append(left, slices.Repeat([]int{other}, len(d.Files)+3)...))
				}
			}
		}
	}
}

func loseAndLook(t *testing.T, d impl.Disk, left []int) {
	t.Helper()
	lost, ok := impl.LoseDisk(d, left)
	if want := plainLost(d, left); !sameDisk(lost, want) || !ok {
		t.Fatalf("LoseDisk(%s, %v) = %s, %v, want %s", tell(d), left, tell(lost), ok, tell(want))
	}
	keepPromise(t, d, lost)
}

func TestLoseDiskOfEachPairAndTriple(t *testing.T) {
	d := disk(file("a", "12", 0), file("b", "345", 1), file("c", "67", 2))
	for a := -1; a <= 4; a++ {
		loseAndLook(t, d, []int{a})
		for b := -1; b <= 4; b++ {
			loseAndLook(t, d, []int{a, b})
			for c := -1; c <= 4; c++ {
				loseAndLook(t, d, []int{a, b, c})
				loseAndLook(t, d, []int{a, b, c, 2})
			}
		}
	}
}

func TestLoseDiskOfLongTexts(t *testing.T) {
	longest := longText(impl.MaxText)
	for _, kept := range []int{0, 1, 9999, impl.MaxText - 1, impl.MaxText} {
		d := disk(file("a", longest, kept), file("b", longest[:impl.MaxText-1], 5))
		for _, left := range []int{math.MinInt64, -1, 0, 1, 2, 9998, 9999, 10000, impl.MaxText - 1, impl.MaxText, impl.MaxText + 1, math.MaxInt64} {
			lost, ok := impl.LoseDisk(d, []int{left, left})
			first := min(max(kept, left), impl.MaxText)
			second := min(max(5, left), impl.MaxText-1)
			if want := disk(file("a", longest[:first], first), file("b", longest[:second], second)); !sameDisk(lost, want) || !ok {
				t.Fatalf("LoseDisk(%s, %d) = %s, %v, want %s", tell(d), left, tell(lost), ok, tell(want))
			}
			keepPromise(t, d, lost)
		}
	}
}

func TestLoseDiskFixed(t *testing.T) {
	d := disk(file("a", "12345", 2), file("b", "678", 0), file("c", "90", 2))
	for _, c := range []struct {
		left    []int
		a, b, c string
	}{
		{nil, "12", "", "90"},
		{[]int{}, "12", "", "90"},
		{[]int{0, 0, 0}, "12", "", "90"},
		{[]int{1, 1, 1}, "12", "6", "90"},
		{[]int{2, 2, 2}, "12", "67", "90"},
		{[]int{3}, "123", "", "90"},
		{[]int{-1, 3}, "12", "678", "90"},
		{[]int{4, 1, -9}, "1234", "6", "90"},
		{[]int{5, 4, 3, 2, 1}, "12345", "678", "90"},
		{[]int{6, -4, 0, 9}, "12345", "", "90"},
	} {
		want := disk(file("a", c.a, len(c.a)), file("b", c.b, len(c.b)), file("c", c.c, len(c.c)))
		if got, ok := impl.LoseDisk(d, c.left); !sameDisk(got, want) || !ok {
			t.Errorf("LoseDisk(%s, %v) = %s, %v, want %s", tell(d), c.left, tell(got), ok, tell(want))
		}
	}
	for _, left := range [][]int{nil, {}, {1}, {-1, 5}} {
		if got, ok := impl.LoseDisk(disk(), left); len(got.Files) != 0 || !ok {
			t.Errorf("LoseDisk(no file, %v) = %s, %v", left, tell(got), ok)
		}
	}
}

func TestCutActs(t *testing.T) {
	d := draw(2)
	for round := range 400 {
		from := disk(file("b", "12", round%3), file("d", "345", 3))
		list := append(trueActs(&d, from, d.below(8)), drawnActs(&d, d.below(4))...)
		left := []int{d.below(7) - 1, d.below(7) - 1, d.below(7) - 1}[:d.below(4)]
		_, done := impl.DoActs(from, list)
		for whole := -2; whole <= len(list)+2; whole++ {
			got, ok := impl.CutActs(from, list, whole, left)
			if whole < 0 || whole > done {
				if len(got.Files) != 0 || ok {
					t.Fatalf("CutActs(%s, %d acts of which %d are true, %d) = %s, %v", tell(from), len(list), done, whole, tell(got), ok)
				}
				continue
			}
			behind, _ := impl.DoActs(from, list[:whole])
			want, _ := impl.LoseDisk(behind, left)
			if !sameDisk(got, want) || !ok || !sameDisk(got, plainLost(behind, left)) {
				t.Fatalf("CutActs(%s, %+v, %d, %v) = %s, %v, want %s", tell(from), list, whole, left, tell(got), ok, tell(want))
			}
			keepPromise(t, behind, got)
		}
	}
}

func TestCutActsEnds(t *testing.T) {
	d := disk(file("a", "12", 1))
	list := []impl.Act{add("a", "3"), keep("a"), add("a", "45"), drop("none"), add("a", "6")}
	for _, c := range []struct {
		whole int
		left  []int
		want  string
	}{
		{0, nil, "1"}, {0, []int{2}, "12"}, {0, []int{3}, "12"},
		{1, nil, "1"}, {1, []int{2}, "12"}, {1, []int{9}, "123"},
		{2, nil, "123"}, {2, []int{-1}, "123"},
		{3, nil, "123"}, {3, []int{4}, "1234"}, {3, []int{5, 1}, "12345"},
	} {
		want := disk(file("a", c.want, len(c.want)))
		if got, ok := impl.CutActs(d, list, c.whole, c.left); !sameDisk(got, want) || !ok {
			t.Errorf("CutActs(%d, %v) = %s, %v, want %s", c.whole, c.left, tell(got), ok, tell(want))
		}
	}
	for _, whole := range []int{math.MinInt64, -1, 4, 5, 6, 7, math.MaxInt64} {
		if got, ok := impl.CutActs(d, list, whole, []int{9}); len(got.Files) != 0 || ok {
			t.Errorf("CutActs(%d) = %s, %v, want none", whole, tell(got), ok)
		}
	}
	for _, whole := range []int{math.MinInt64, -1, 1, math.MaxInt64} {
		if got, ok := impl.CutActs(d, nil, whole, nil); len(got.Files) != 0 || ok {
			t.Errorf("CutActs of none(%d) = %s, %v, want none", whole, tell(got), ok)
		}
		// room behind the list holds no act
		if got, ok := impl.CutActs(d, list[:0], whole, nil); len(got.Files) != 0 || ok {
			t.Errorf("CutActs of none, with room(%d) = %s, %v, want none", whole, tell(got), ok)
		}
	}
	if got, ok := impl.CutActs(disk(), nil, 0, []int{1}); len(got.Files) != 0 || !ok {
		t.Errorf("CutActs of nothing = %s, %v", tell(got), ok)
	}
}

// What was kept once stands after any cut of what comes, as long as the file is not moved over or dropped.
func TestKeptStaysUnderAdds(t *testing.T) {
	list := []impl.Act{add("a", "12"), keep("a"), add("b", "x"), add("a", "34"), keep("b"), add("a", "5")}
	for whole := range len(list) + 1 {
		for n := range 8 {
			got, ok := impl.CutActs(disk(), list, whole, []int{n, n})
			a, _ := impl.FileAt(got, "a")
			b, _ := impl.FileAt(got, "b")
			if !ok || whole >= 2 && !strings.HasPrefix(a, "12") || whole >= 5 && b != "x" || !strings.HasPrefix("12345", a) || !strings.HasPrefix("x", b) {
				t.Errorf("behind %d acts, %d left: %s, %v", whole, n, tell(got), ok)
			}
		}
	}
}

func TestAllKept(t *testing.T) {
	for _, d := range rightDisks() {
		want := true
		for _, f := range d.Files {
			want = want && f.Kept == len(f.Text)
		}
		if got := impl.AllKept(d); got != want {
			t.Errorf("AllKept(%s) = %v", tell(d), got)
		}
	}
	for at := range impl.MaxFiles {
		var d impl.Disk
		for _, f := range manyFiles(impl.MaxFiles).Files {
			d.Files = append(d.Files, file(f.Name, f.Text+"1", len(f.Text)+1))
		}
		if !impl.AllKept(d) {
			t.Fatal("AllKept is false of a full disk all of which is kept")
		}
		d.Files[at].Kept--
		if impl.AllKept(d) {
			t.Fatalf("AllKept is true with a byte that is not kept at the place %d", at)
		}
	}
}

// a disk with room behind its files, and a look at whether all of it is as it was
func roomy(d impl.Disk) (impl.Disk, func() bool) {
	files := append(make([]impl.File, 0, len(d.Files)+40), d.Files...)
	room := files[:cap(files)]
	for at := len(files); at < len(room); at++ {
		room[at] = file("room", "behind", -at)
	}
	before := slices.Clone(room)
	return impl.Disk{Files: files}, func() bool { return slices.Equal(room, before) }
}

func scribble(d impl.Disk) {
	all := d.Files[:cap(d.Files)]
	for at := range all {
		all[at] = file("scribble", "over", -7)
	}
}

func TestFilesAreNewMemory(t *testing.T) {
	acts := append(make([]impl.Act, 0, 9), add("a", "1"), add("q", "2"), keep("q"), move("q", "r"), drop("r"), drop("none"))
	left := append(make([]int, 0, 50), 1, 2, 3)
	actsBefore, leftBefore := slices.Clone(acts[:cap(acts)]), slices.Clone(left[:cap(left)])
	for _, from := range append(rightDisks(), wrongDisks()...) {
		d, untouched := roomy(from)
		look := func(what string, answer impl.Disk) {
			t.Helper()
			for range 2 {
				if !untouched() || !slices.Equal(acts[:cap(acts)], actsBefore) || !slices.Equal(left[:cap(left)], leftBefore) {
					t.Fatalf("%s of %s writes into an argument", what, tell(from))
				}
				scribble(answer)
			}
		}
		for at, a := range acts {
			answer, _ := impl.DoAct(d, a)
			look("DoAct", answer)
			answer, _ = impl.DoActs(d, acts[:at])
			look("DoActs", answer)
			answer, _ = impl.CutActs(d, acts, at, left)
			look("CutActs", answer)
		}
		answer, _ := impl.DoActs(d, acts)
		look("DoActs", answer)
		answer, _ = impl.LoseDisk(d, left)
		look("LoseDisk", answer)
		answer, _ = impl.LoseDisk(d, nil)
		look("LoseDisk", answer)
		impl.FileAt(d, "a")
		impl.DiskOk(d)
		impl.AllKept(d)
		look("a look", impl.Disk{})
	}
}

func sharesBytes(a, b string) bool {
	if a == "" || b == "" {
		return false
	}
	p, q := uintptr(unsafe.Pointer(unsafe.StringData(a))), uintptr(unsafe.Pointer(unsafe.StringData(b)))
	return p < q+uintptr(len(b)) && q < p+uintptr(len(a))
}

func TestTextsAreNewMemory(t *testing.T) {
	name, text, more := strings.Clone("name"), longText(100), strings.Clone("more")
	other, to, fresh := strings.Clone("other"), strings.Clone("to"), strings.Clone("fresh")
	d := disk(file(name, text, 100), file(other, text, 50))
	acts := []impl.Act{keep(other), add(fresh, more), add(other, ""), move(name, to)}
	look := func(what string, texts ...string) {
		t.Helper()
		for _, got := range texts {
			for _, given := range []string{name, text, more, other, to, fresh} {
				if sharesBytes(got, given) {
					t.Errorf("%s answers bytes of an argument: %q", what, got)
				}
			}
		}
	}
	lookAt := func(what string, answer impl.Disk) {
		t.Helper()
		if len(answer.Files) == 0 {
			t.Errorf("%s answers no file", what)
		}
		for _, f := range answer.Files {
			look(what, f.Name, f.Text)
		}
	}
	for at, a := range acts {
		answer, _ := impl.DoAct(d, a)
		lookAt("DoAct", answer)
		answer, _ = impl.DoActs(d, acts[:at])
		lookAt("DoActs", answer)
		answer, _ = impl.CutActs(d, acts, at, []int{60, 70})
		lookAt("CutActs", answer)
	}
	answer, _ := impl.DoActs(d, acts)
	lookAt("DoActs", answer)
	answer, _ = impl.LoseDisk(d, []int{7})
	lookAt("LoseDisk", answer)
	answer, _ = impl.DoActs(disk(file(name, text, 101)), acts)
	lookAt("DoActs of a wrong disk", answer)
	got, _ := impl.FileAt(d, "other")
	look("FileAt", got)
}

// The order in which a map is gone through is never told.
func TestActsAnswerTheSameAgain(t *testing.T) {
	full := manyFiles(impl.MaxFiles)
	list := []impl.Act{drop("n003"), drop("n020"), add("a", "1"), keep("n007"), move("n007", "zz"), add("n003", "again")}
	first, n := impl.DoActs(full, list)
	for range 200 {
		if again, m := impl.DoActs(full, list); !sameDisk(again, first) || m != n || n != len(list) {
			t.Fatalf("DoActs again = %s, %d, want %s, %d", tell(again), m, tell(first), n)
		}
	}
}
