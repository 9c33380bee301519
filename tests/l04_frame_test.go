package tests

import (
	"slices"
	"strings"
	"testing"

	"loop.example/g00188/impl"
)

// the bytes of a length by the words of VarText, up to three of them: MaxText needs no more
func plainLength(n int) string {
	switch {
	case n < 128:
		return string([]byte{byte(n)})
	case n < 128*128:
		return string([]byte{byte(n%128 + 128), byte(n / 128)})
	}
	return string([]byte{byte(n%128 + 128), byte(n/128%128 + 128), byte(n / 128 / 128)})
}

// a frame by the chapter's words, whatever the text's length
func plainFrame(text string) string {
	return plainLength(len(text)) + bitSumBytes(bitSum(4294967295, text)) + text
}

// the length that each beginning of a frame tells
func plainLengths() map[string]int {
	lengths := map[string]int{}
	for n := 1; n <= impl.MaxRecord; n++ {
		lengths[plainLength(n)] = n
	}
	return lengths
}

// Unframe by the chapter's words: a record comes when the file goes on with the frame of it
func plainUnframe(lengths map[string]int, file string) ([]string, int) {
	var records []string
	place := 0
	if len(file) > impl.MaxText {
		return nil, 0
	}
next:
	for {
		rest := file[place:]
		for ahead := 1; ahead <= 2 && ahead <= len(rest); ahead++ {
			n := lengths[rest[:ahead]]
			if n == 0 || ahead+4+n > len(rest) {
				continue
			}
			text := rest[ahead+4 : ahead+4+n]
			if strings.HasPrefix(rest, plainFrame(text)) {
				records = append(records, text)
				place += ahead + 4 + n
				continue next
			}
		}
		return records, place
	}
}

func wantRecords(t *testing.T, file string, records []string, place int) {
	t.Helper()
	got, behind := impl.Unframe(file)
	if !slices.Equal(got, records) || behind != place {
		t.Fatalf("Unframe(%.60q) of %d bytes = %d records (%.60q), %d, want %d (%.60q), %d", file, len(file), len(got), got, behind, len(records), records, place)
	}
}

// the frames of the records, one behind the other, and the place behind each of them
func fileOf(t *testing.T, records []string) (string, []int) {
	t.Helper()
	var file strings.Builder
	var ends []int
	for _, text := range records {
		frame, ok := impl.Frame(text)
		if !ok {
			t.Fatalf("Frame of %d bytes is false", len(text))
		}
		file.WriteString(frame)
		ends = append(ends, file.Len())
	}
	return file.String(), ends
}

// texts of 1 to MaxRecord bytes, at the edges of a length in bytes and of all kinds of bytes
func edgeRecords() []string {
	list := []string{
		"one", "plan", "ä€", "\x00\x00", "\xff\xff\xff", "\xff\xff\xff\xff", allBytes(),
		longText(126), longText(127), longText(128), longText(129), longText(255), longText(256),
		longText(impl.MaxRecord - 1), longText(impl.MaxRecord),
		strings.Repeat("\x00", 127), strings.Repeat("\x00", 128), strings.Repeat("\xff", 127), strings.Repeat("\xff", 128),
		strings.Repeat("\x00", impl.MaxRecord), strings.Repeat("\xff", impl.MaxRecord),
	}
	for b := range 256 {
		list = append(list, string([]byte{byte(b)}))
	}
	return list
}

// lists of records whose frames come to at most MaxText bytes
func recordLists() [][]string {
	ones := make([]string, 300)
	for at := range ones {
		ones[at] = string([]byte{byte(at)})
	}
	return [][]string{
		nil,
		{"a"},
		{"\x00"},
		{"\xff"},
		{"one", "two", "three"},
		{"same", "same", "same"},
		{"\x00", "\x00\x00", "\xff", "\xff\xff", "\x00\xff", "\x80\x01", "\x01"},
		{"a", longText(127), longText(128), "b", allBytes(), longText(129), "c"},
		{longText(128), longText(127)},
		{strings.Repeat("\x00", 128), strings.Repeat("\xff", 128), "\x00"},
		{longText(impl.MaxRecord)},
		{"a", longText(impl.MaxRecord), "b"},
		{longText(impl.MaxRecord), strings.Repeat("\x00", impl.MaxRecord), longText(1982)},
		ones,
	}
}

func TestFrameConstant(t *testing.T) {
	if impl.MaxRecord != 9000 {
		t.Errorf("MaxRecord = %d, want 9000", impl.MaxRecord)
	}
}

// Frames that are written out by hand; the sums were reckoned bit by bit outside of the program.
func handFrames() []struct{ text, frame string } {
	nought, high, a := strings.Repeat("\x00", 9000), strings.Repeat("\xff", 9000), strings.Repeat("a", 9000)
	return []struct{ text, frame string }{
		{"a", "\x01\x9f\x7e\x64\x96a"},
		{"\x00", "\x01\x81\xa5\xc7\xdc\x00"},
		{"\x80", "\x01\x55\xbc\x0b\xc9\x80"},
		{"\xff", "\x01\x00\xff\xff\xff\xff"},
		{"one", "\x03\x19\x0e\xcf\x17one"},
		{"plan", "\x04\xdd\x68\x06\x18plan"},
		{"\xff\xff\xff\xff", "\x04\x00\x00\x00\x00\xff\xff\xff\xff"},
		{"123456789", "\x09\x78\xce\xaa\x89123456789"},
		{nought[:127], "\x7f\xea\xf7\x1a\x85" + nought[:127]},
		{nought[:128], "\x80\x01\x50\x59\xaa\x7c" + nought[:128]},
		{high[:127], "\x7f\x3d\xa6\xef\xbf" + high[:127]},
		{high[:128], "\x80\x01\xbe\x28\x8c\xf0" + high[:128]},
		{a[:300], "\xac\x02\x7c\xcf\xf2\x66" + a[:300]},
		{a[:8999], "\xa7\x46\x7a\xff\x5e\x61" + a[:8999]},
		{a, "\xa8\x46\x00\x7a\xff\x5e" + a},
		{nought, "\xa8\x46\x88\x5e\xef\x3f" + nought},
		{high, "\xa8\x46\x70\xcc\xa2\x4c" + high},
	}
}

func TestFrameBytes(t *testing.T) {
	for _, c := range handFrames() {
		if got, ok := impl.Frame(c.text); got != c.frame || !ok {
			t.Errorf("Frame(%.20q) of %d bytes = %.20q, %v, want %.20q", c.text, len(c.text), got, ok, c.frame)
		}
		wantRecords(t, c.frame, []string{c.text}, len(c.frame))
	}
}

func TestFrameByTheWords(t *testing.T) {
	for _, text := range edgeRecords() {
		if got, ok := impl.Frame(text); got != plainFrame(text) || !ok {
			t.Fatalf("Frame(%.20q) of %d bytes = %.20q, %v", text, len(text), got, ok)
		}
	}
	for n := 1; n <= impl.MaxRecord; n += 1 + n/40 {
		if got, ok := impl.Frame(longText(n)); got != plainFrame(longText(n)) || !ok {
			t.Fatalf("Frame of %d bytes = %.20q, %v", n, got, ok)
		}
	}
}

func TestFrameRefuses(t *testing.T) {
	for _, n := range []int{0, impl.MaxRecord + 1, impl.MaxRecord + 2, 128 * 128, impl.MaxText, impl.MaxText + 1, 5 * impl.MaxText} {
		if got, ok := impl.Frame(longText(n)); got != "" || ok {
			t.Errorf("Frame of %d bytes = %.20q, %v, want nothing", n, got, ok)
		}
	}
	if got, ok := impl.Frame(longText(impl.MaxRecord)); len(got) != impl.MaxRecord+6 || !ok {
		t.Errorf("Frame of MaxRecord bytes = %d bytes, %v", len(got), ok)
	}
}

func TestEachRecordComesBack(t *testing.T) {
	for _, text := range edgeRecords() {
		file, ends := fileOf(t, []string{text})
		wantRecords(t, file, []string{text}, ends[0])
		wantRecords(t, file+file, []string{text, text}, 2*ends[0])
	}
	for n := 1; n <= 1000; n++ {
		file, ends := fileOf(t, []string{longText(n)})
		wantRecords(t, file, []string{longText(n)}, ends[0])
	}
}

func TestRecordsComeBackInOrder(t *testing.T) {
	for _, records := range recordLists() {
		file, _ := fileOf(t, records)
		if len(file) > impl.MaxText {
			t.Fatalf("the file of %d records has %d bytes", len(records), len(file))
		}
		wantRecords(t, file, records, len(file))
	}
}

// Of what is cut, at whatever place, just the whole frames' records come.
func TestRecordsOfACutFile(t *testing.T) {
	for _, records := range recordLists() {
		file, ends := fileOf(t, records)
		whole, place := 0, 0
		for cut := range len(file) + 1 {
			if whole < len(ends) && ends[whole] == cut {
				place = cut
				whole++
			}
			wantRecords(t, file[:cut], records[:whole], place)
		}
		if whole != len(records) {
			t.Errorf("%d of %d frames were whole at the end", whole, len(records))
		}
	}
}

// What is left of a frame that is cut at its front is none, and hides those behind it.
func TestFilesWithoutTheirFront(t *testing.T) {
	file, ends := fileOf(t, []string{"one", "two", "three"})
	for cut := 1; cut < ends[0]; cut++ {
		wantRecords(t, file[cut:], nil, 0)
	}
	wantRecords(t, file[ends[0]:], []string{"two", "three"}, len(file)-ends[0])
	wantRecords(t, file[ends[1]:], []string{"three"}, len(file)-ends[1])
}

// Each byte of each frame turned into each other one: its length, its sum, its text.
func TestTurnedByteOfAFrame(t *testing.T) {
	for _, records := range [][]string{
		{"a"},
		{"one", "two", "three"},
		{"\x00", "\xff", "\x00\x00"},
		{"a", longText(127), "b"},
		{longText(128), longText(127), longText(130)},
	} {
		file, ends := fileOf(t, records)
		hit, ahead := 0, 0
		for at := range len(file) {
			if at == ends[hit] {
				ahead = at
				hit++
			}
			for mask := 1; mask < 256; mask++ {
				wantRecords(t, turned(file, at, byte(mask)), records[:hit], ahead)
			}
		}
	}
}

func TestTurnedByteOfTheLongestFrame(t *testing.T) {
	records := []string{"ahead", longText(impl.MaxRecord), "behind"}
	file, ends := fileOf(t, records)
	for at := ends[0]; at < ends[1]; at++ {
		wantRecords(t, turned(file, at, 1<<(at%8)), records[:1], ends[0])
	}
	for at := ends[0]; at < ends[0]+6; at++ {
		for mask := 1; mask < 256; mask++ {
			wantRecords(t, turned(file, at, byte(mask)), records[:1], ends[0])
		}
	}
}

// what is no frame, though some of it has a right sum
func wrongFrames() []string {
	sum := bitSumBytes(bitSum(4294967295, "one"))
	none := bitSumBytes(4294967295)
	most, long := longText(impl.MaxRecord), longText(128)
	list := []string{
		plainFrame(""), "\x80\x00" + none, "\x00", "\x00\x00\x00\x00\x00", "\x00" + sum + "one",
		plainFrame(longText(impl.MaxRecord + 1)), plainFrame(longText(impl.MaxRecord + 2)), plainFrame(longText(10000)),
		plainFrame(longText(128*128 - 1)), plainFrame(longText(128 * 128)), plainFrame(longText(19900)),
		// lengths in a longer form
		"\x83\x00" + sum + "one", "\x83\x80\x00" + sum + "one", "\x83\x80\x80\x80\x80\x00" + sum + "one",
		"\x80\x81\x00" + bitSumBytes(bitSum(4294967295, long)) + long,
		"\xa8\xc6\x00" + bitSumBytes(bitSum(4294967295, most)) + most,
		// lengths that are none of a record, or none at all
		"\x80\x94\xeb\xdc\x03" + sum + "one", "\x81\x94\xeb\xdc\x03" + sum + "one", "\xff\xff\xff\xff\x0f" + sum + "one",
		"\xff\xff\xff\xff\xff\xff\xff\xff\x7f" + sum + "one", "\x80\x80\x80\x80\x80\x80\x80\x80\x80\x01" + sum + "one", strings.Repeat("\x80", 40), strings.Repeat("\xff", 40),
		// a frame that has its sum behind, no sum, a sealed text, a short text, a text alone
		"\x03one" + sum, "\x03one", "one" + sum, "one", "\x03" + sum, sum + "\x03one", sum + "one",
		// other sums: of the length too, from 0 on, turned round
		"\x03" + bitSumBytes(bitSum(4294967295, "\x03one")) + "one", "\x03" + bitSumBytes(bitSum(0, "one")) + "one",
		"\x03" + bitSumBytes(^bitSum(4294967295, "one")) + "one", "\x03" + bitSumBytes(bitSum(4294967295, "One")) + "one",
		"\x03\x00\x00\x00\x00one", "\x03\xff\xff\xff\xffone",
	}
	for _, o := range otherOrders() {
		list = append(list, "\x03"+string([]byte{sum[o[0]], sum[o[1]], sum[o[2]], sum[o[3]]})+"one")
	}
	return list
}

// A frame that is whole behind one that is none does not come.
func TestWrongFramesEndTheReading(t *testing.T) {
	frame := plainFrame("whole")
	for _, wrong := range wrongFrames() {
		for _, behind := range []string{"", frame, frame + frame, "\x00"} {
			wantRecords(t, wrong+behind, nil, 0)
			wantRecords(t, frame+wrong+behind, []string{"whole"}, len(frame))
			wantRecords(t, frame+frame+wrong+behind, []string{"whole", "whole"}, 2*len(frame))
		}
	}
}

func TestLengthsBeyondTheEnd(t *testing.T) {
	frame := plainFrame("whole")
	for _, text := range []string{"a", "one", longText(127), longText(128), longText(300), longText(impl.MaxRecord - 1)} {
		for _, more := range []int{1, 2, 127, 128, impl.MaxRecord - len(text)} {
			if len(text)+more > impl.MaxRecord {
				continue
			}
			wrong := plainLength(len(text)+more) + bitSumBytes(bitSum(4294967295, text)) + text
			wantRecords(t, wrong, nil, 0)
			wantRecords(t, frame+wrong, []string{"whole"}, len(frame))
		}
		right := plainFrame(text)
		wantRecords(t, frame+right, []string{"whole", text}, len(frame)+len(right))
	}
}

func TestBytesBehindTheLastFrame(t *testing.T) {
	file, _ := fileOf(t, []string{"one", "two"})
	for _, tail := range []string{"\x00", "\x00\x00\x00\x00\x00\x00", "\x80", "\xff", " ", "\n", "words", "\x01", "\x01\x00\x00\x00\x00", "\x03one", "one"} {
		wantRecords(t, file+tail, []string{"one", "two"}, len(file))
		wantRecords(t, tail, nil, 0)
	}
	for a := range 256 {
		wantRecords(t, file+string([]byte{byte(a)}), []string{"one", "two"}, len(file))
		for b := range 256 {
			wantRecords(t, string([]byte{byte(a), byte(b)}), nil, 0)
			wantRecords(t, file+string([]byte{byte(a), byte(b), byte(a)}), []string{"one", "two"}, len(file))
		}
	}
}

// A text that is a frame is a record like others: it is not opened, nor looked for in a torn one.
func TestFramesInFrames(t *testing.T) {
	inner := plainFrame("inner")
	outer := plainFrame(inner + inner)
	wantRecords(t, outer, []string{inner + inner}, len(outer))
	wantRecords(t, outer[:len(outer)-1], nil, 0)
	wantRecords(t, turned(outer, 1, 1)+inner, nil, 0)
	wantRecords(t, turned(outer, len(outer)-1, 1)+inner, nil, 0)
	wantRecords(t, inner+turned(outer, 0, 1), []string{"inner"}, len(inner))
}

// A sum of 0 stays one over bytes of 0, so that these frames are whole ones with either length.
func TestFramesWithASumOfZero(t *testing.T) {
	for more := range 9 {
		text := "\xff\xff\xff\xff" + strings.Repeat("\x00", more)
		file := plainLength(len(text)) + "\x00\x00\x00\x00" + text
		wantRecords(t, file, []string{text}, len(file))
		wantRecords(t, file+strings.Repeat("\x00", 9), []string{text}, len(file))
	}
}

func TestUnframeOfTheEmptyFile(t *testing.T) {
	wantRecords(t, "", nil, 0)
}

func TestUnframeUpToMaxText(t *testing.T) {
	most := longText(impl.MaxRecord)
	for _, c := range []struct {
		last   int
		tail   string
		length int
	}{
		{1982, "", impl.MaxText},
		{1981, "", impl.MaxText - 1},
		{1981, "\x00", impl.MaxText},
		{1969, "\x09\x78\xce\xaa\x8912345678", impl.MaxText},
		{1983, "", impl.MaxText + 1},
		{1982, "\x00", impl.MaxText + 1},
		{1, strings.Repeat("\x00", 1983), impl.MaxText + 1},
		{1984, "", impl.MaxText + 2},
		{impl.MaxRecord, "", 3 * (impl.MaxRecord + 6)},
	} {
		records := []string{most, most, longText(c.last)}
		file, ends := fileOf(t, records)
		want, place := records, ends[2]
		if c.length > impl.MaxText {
			want, place = nil, 0
		}
		if len(file+c.tail) != c.length {
			t.Fatalf("the file has %d bytes, want %d", len(file+c.tail), c.length)
		}
		wantRecords(t, file+c.tail, want, place)
	}
	wantRecords(t, longText(impl.MaxText), nil, 0)
	wantRecords(t, strings.Repeat("\x00", impl.MaxText), nil, 0)
	wantRecords(t, strings.Repeat("\xff", impl.MaxText), nil, 0)
	wantRecords(t, strings.Repeat("\xff", 50*impl.MaxText), nil, 0)
	small := strings.Repeat(plainFrame("a"), 3334)
	wantRecords(t, small, nil, 0)
	wantRecords(t, small[:impl.MaxText], slices.Repeat([]string{"a"}, 3333), 19998)
}

// a piece of a file: mostly a frame, at times one that is cut or turned, or other bytes
func drawnPiece(d *draw) string {
	text := make([]byte, 1+d.below(1+d.below(200)))
	for at := range text {
		text[at] = []byte{0, 1, 2, 127, 128, 255, 'a', 'b'}[d.below(8)]
	}
	frame := plainFrame(string(text))
	switch d.below(12) {
	case 0:
		return frame[:d.below(len(frame))]
	case 1:
		return turned(frame, d.below(len(frame)), byte(1+d.below(255)))
	case 2:
		return string(text)
	case 3:
		return frame + "\x00"
	}
	return frame
}

func TestDrawnFilesByTheWords(t *testing.T) {
	lengths := plainLengths()
	d := draw(4)
	counts := map[int]int{}
	for range 20000 {
		file := ""
		for range d.below(9) {
			file += drawnPiece(&d)
		}
		records, place := plainUnframe(lengths, file)
		counts[len(records)]++
		wantRecords(t, file, records, place)
	}
	for n := range 9 {
		if counts[n] < 50 {
			t.Errorf("%d drawn files have %d records", counts[n], n)
		}
	}
}

func TestFramesAreNewMemory(t *testing.T) {
	for _, text := range []string{"a", "one", longText(300), longText(impl.MaxRecord)} {
		text = strings.Clone(text)
		before := strings.Clone(text)
		first, _ := impl.Frame(text)
		second, _ := impl.Frame(text)
		if sharesBytes(first, text) || sharesBytes(first, second) {
			t.Errorf("Frame of %d bytes shares memory", len(text))
		}
		if text != before || first != second || first != plainFrame(before) {
			t.Errorf("Frame of %d bytes changes what it is given, or answers another one again", len(text))
		}
	}
}

func TestRecordsAreNewMemory(t *testing.T) {
	for _, records := range recordLists() {
		file, _ := fileOf(t, records)
		file += "\x03torn"
		if len(file) > impl.MaxText {
			continue
		}
		before := strings.Clone(file)
		first, _ := impl.Unframe(file)
		second, _ := impl.Unframe(file)
		for at := range first {
			// a text of one byte may be the library's own, whoever asks for it
			if sharesBytes(first[at], file) || len(first[at]) > 1 && sharesBytes(first[at], second[at]) {
				t.Fatalf("the record %d of %d shares memory", at, len(first))
			}
		}
		for at := range first[:cap(first)] {
			first[:cap(first)][at] = "gone"
		}
		if !slices.Equal(second, records) || file != before {
			t.Errorf("an answer that is written into changes another one: %.40q", second)
		}
		wantRecords(t, file, records, len(file)-5)
	}
}
