package tests

import (
	"math"
	"slices"
	"strings"
	"testing"

	"loop.example/g00188/impl"
)

// every byte from 0 to 255, in order
func allBytes() string {
	out := make([]byte, 256)
	for i := range out {
		out[i] = byte(i)
	}
	return string(out)
}

// a text of n bytes whose neighbours are unlike, so that a shifted reading shows
func longText(n int) string {
	out := make([]byte, n)
	for i := range out {
		out[i] = byte(i*7 + i/256)
	}
	return string(out)
}

// texts at the edges that the chapter names, all within MaxText
func edgeTexts() []string {
	list := []string{
		"", "a", "\x00", "\x7f", "\x80", "\xff", "plan", "ä€", allBytes(),
		longText(127), longText(128), longText(129),
		longText(impl.MaxText - 1), longText(impl.MaxText),
	}
	for b := range 256 {
		list = append(list, string([]byte{byte(b)}))
	}
	return list
}

// numbers in 0 .. MaxNumber: the small ones, and those around each power of two and of ten
func edgeNumbers() []int {
	var list []int
	for n := range 40000 {
		list = append(list, n)
	}
	for p := 1; p <= impl.MaxNumber; p *= 2 {
		list = append(list, p-1, p, p+1)
	}
	for p := 1; p < impl.MaxNumber; p *= 10 {
		list = append(list, p-1, p, p+1, 9*p)
	}
	for n := 1; n < impl.MaxNumber; n += 1234577 {
		list = append(list, n)
	}
	return append(list, impl.MaxNumber-1, impl.MaxNumber)
}

// numbers that no text of a number in 0 .. MaxNumber tells
func wrongNumbers() []int {
	return []int{
		-1, -127, -128, -impl.MaxNumber, math.MinInt64, math.MinInt32,
		impl.MaxNumber + 1, math.MaxInt32, 1 << 35, math.MaxInt64,
	}
}

func TestWordsConstants(t *testing.T) {
	got := []int{impl.MaxText, impl.MaxNumber, impl.MaxWords, impl.MaxParts}
	if want := []int{20000, 1000000000, 600, 10}; !slices.Equal(got, want) {
		t.Errorf("constants %v, want %v", got, want)
	}
}

func TestVarTextBytes(t *testing.T) {
	for _, c := range []struct {
		n    int
		want string
	}{
		{0, "\x00"},
		{1, "\x01"},
		{127, "\x7f"},
		{128, "\x80\x01"},
		{129, "\x81\x01"},
		{255, "\xff\x01"},
		{256, "\x80\x02"},
		{300, "\xac\x02"},
		{16383, "\xff\x7f"},
		{16384, "\x80\x80\x01"},
		{2097151, "\xff\xff\x7f"},
		{2097152, "\x80\x80\x80\x01"},
		{268435455, "\xff\xff\xff\x7f"},
		{268435456, "\x80\x80\x80\x80\x01"},
		{impl.MaxNumber, "\x80\x94\xeb\xdc\x03"},
	} {
		if got, ok := impl.VarText(c.n); got != c.want || !ok {
			t.Errorf("VarText(%d) = %q, %v, want %q", c.n, got, ok, c.want)
		}
	}
}

func TestVarTextRefuses(t *testing.T) {
	for _, n := range wrongNumbers() {
		if got, ok := impl.VarText(n); got != "" || ok {
			t.Errorf("VarText(%d) = %q, %v, want nothing", n, got, ok)
		}
	}
}

func TestVarTextComesBack(t *testing.T) {
	for _, n := range edgeNumbers() {
		text, ok := impl.VarText(n)
		if !ok {
			t.Fatalf("VarText(%d) is false", n)
		}
		for _, ahead := range []string{"", "\x80", "\xff\xff\xff", "words"} {
			for _, behind := range []string{"", "\x00", "\x80\x80", "\xff", "words"} {
				got, at, right := impl.ReadVar(ahead+text+behind, len(ahead))
				if got != n || at != len(ahead)+len(text) || !right {
					t.Fatalf("ReadVar of %q behind %q, ahead of %q = %d, %d, %v, want %d", text, ahead, behind, got, at, right, n)
				}
			}
		}
	}
}

func TestVarTextsInARow(t *testing.T) {
	var file string
	numbers := []int{0, 127, 128, 0, impl.MaxNumber, 16384, 1, 0}
	for _, n := range numbers {
		text, _ := impl.VarText(n)
		file += text
	}
	at := 0
	for i, n := range numbers {
		got, next, ok := impl.ReadVar(file, at)
		if got != n || !ok {
			t.Fatalf("number %d = %d, %v, want %d", i, got, ok, n)
		}
		at = next
	}
	if at != len(file) {
		t.Errorf("the last number ends at %d, want %d", at, len(file))
	}
}

func refuseVar(t *testing.T, text string, at int) {
	t.Helper()
	if n, next, ok := impl.ReadVar(text, at); n != 0 || next != 0 || ok {
		t.Errorf("ReadVar(%q, %d) = %d, %d, %v, want nothing", text, at, n, next, ok)
	}
}

func TestReadVarRefusesLongerForms(t *testing.T) {
	for _, text := range []string{
		"\x80\x00", "\x81\x00", "\xff\x00", "\x80\x80\x00", "\xff\x80\x00",
		"\x80\x80\x80\x00", "\x80\x80\x80\x80\x00", "\x80\x80\x80\x80\x80\x00",
		"\x80\x94\xeb\xdc\x83\x00", "\x81\x80\x80\x80\x80\x80\x80\x80\x80\x80\x00",
	} {
		refuseVar(t, text, 0)
		refuseVar(t, "\x05"+text, 1)
		refuseVar(t, text+"\x01", 0)
	}
}

func TestReadVarRefusesCutOnes(t *testing.T) {
	for _, n := range []int{128, 300, 16384, 2097152, 268435456, impl.MaxNumber} {
		text, _ := impl.VarText(n)
		for cut := range len(text) {
			refuseVar(t, text[:cut], 0)
			refuseVar(t, "ab"+text[:cut], 2)
		}
	}
	for _, count := range []int{1, 4, 5, 6, 9, 10, 11, 70, 5000} {
		refuseVar(t, strings.Repeat("\x80", count), 0)
		refuseVar(t, strings.Repeat("\xff", count), 0)
	}
}

func TestReadVarRefusesGreatOnes(t *testing.T) {
	refuseVar(t, "\x81\x94\xeb\xdc\x03", 0) // MaxNumber + 1
	refuseVar(t, "\x80\x94\xeb\xdc\x04", 0)
	refuseVar(t, "\xff\xff\xff\xff\x7f", 0)
	// A reader whose sum wraps round would take some of these for small numbers.
	for count := 5; count < 300; count++ {
		for _, last := range []string{"\x01", "\x02", "\x7f"} {
			refuseVar(t, strings.Repeat("\x80", count)+last, 0)
			refuseVar(t, strings.Repeat("\xff", count)+last, 0)
			refuseVar(t, "\x85"+strings.Repeat("\x80", count)+last, 0)
		}
	}
}

func TestReadVarPlaces(t *testing.T) {
	text := "\x00\xac\x02\x7f"
	for _, at := range []int{-1, -2, math.MinInt64, len(text), len(text) + 1, 1000, math.MaxInt64} {
		refuseVar(t, text, at)
	}
	for _, at := range []int{-1, 0, 1, math.MaxInt64, math.MinInt64} {
		refuseVar(t, "", at)
	}
	for _, c := range []struct{ at, n, next int }{{0, 0, 1}, {1, 300, 3}, {2, 2, 3}, {3, 127, 4}} {
		if n, next, ok := impl.ReadVar(text, c.at); n != c.n || next != c.next || !ok {
			t.Errorf("ReadVar at %d = %d, %d, %v, want %d, %d", c.at, n, next, ok, c.n, c.next)
		}
	}
}

// Of all texts of one, two and three bytes just those are read whole that VarText writes: no number has two forms.
func TestReadVarReadsJustVarTexts(t *testing.T) {
	wholes := [4]int{}
	check := func(text string) {
		n, next, ok := impl.ReadVar(text, 0)
		if !ok || next != len(text) {
			return
		}
		wholes[len(text)]++
		if again, _ := impl.VarText(n); again != text {
			t.Fatalf("ReadVar(%q) = %d, whose VarText is %q", text, n, again)
		}
	}
	for a := range 256 {
		check(string([]byte{byte(a)}))
		for b := range 256 {
			check(string([]byte{byte(a), byte(b)}))
			for c := range 256 {
				check(string([]byte{byte(a), byte(b), byte(c)}))
			}
		}
	}
	if want := [4]int{0, 128, 128 * 127, 128 * 128 * 127}; wholes != want {
		t.Errorf("texts that are read whole, by their length: %v, want %v", wholes, want)
	}
}

func TestShortTextBytes(t *testing.T) {
	for _, c := range []struct{ s, want string }{
		{"", "\x00"},
		{"a", "\x01a"},
		{"\x00", "\x01\x00"},
		{"plan", "\x04plan"},
		{strings.Repeat("x", 127), "\x7f" + strings.Repeat("x", 127)},
		{strings.Repeat("x", 128), "\x80\x01" + strings.Repeat("x", 128)},
		{strings.Repeat("x", impl.MaxText), "\xa0\x9c\x01" + strings.Repeat("x", impl.MaxText)},
	} {
		if got, ok := impl.ShortText(c.s); got != c.want || !ok {
			t.Errorf("ShortText of %d bytes is not as it must be: %v", len(c.s), ok)
		}
	}
}

func TestShortTextComesBack(t *testing.T) {
	for _, s := range edgeTexts() {
		text, ok := impl.ShortText(s)
		if !ok {
			t.Fatalf("ShortText of %d bytes is false", len(s))
		}
		for _, ahead := range []string{"", "\x80\x80", "words"} {
			for _, behind := range []string{"", "\x00", "words"} {
				got, at, right := impl.ReadShort(ahead+text+behind, len(ahead))
				if got != s || at != len(ahead)+len(text) || !right {
					t.Fatalf("ReadShort of %d bytes behind %q, ahead of %q: %d bytes, %d, %v", len(s), ahead, behind, len(got), at, right)
				}
			}
		}
	}
}

func TestShortTextRefuses(t *testing.T) {
	for _, length := range []int{impl.MaxText + 1, impl.MaxText + 2, 3 * impl.MaxText} {
		if got, ok := impl.ShortText(longText(length)); got != "" || ok {
			t.Errorf("ShortText of %d bytes = %d bytes, %v, want nothing", length, len(got), ok)
		}
	}
}

func refuseShort(t *testing.T, text string, at int) {
	t.Helper()
	if s, next, ok := impl.ReadShort(text, at); s != "" || next != 0 || ok {
		t.Errorf("ReadShort(%.20q, %d) = %.20q, %d, %v, want nothing", text, at, s, next, ok)
	}
}

func TestReadShortRefuses(t *testing.T) {
	for _, text := range []string{
		"", "\x01", "\x02a", "\x7f" + strings.Repeat("x", 126), "\x80\x01" + strings.Repeat("x", 127),
		"\x80\x00", "\x81\x00a", "\x80", "\x81", "\xff\xff\xff\xff\xff\xff\xff\xff\xff\x01words",
		"\x80\x94\xeb\xdc\x03words", "\x81\x94\xeb\xdc\x03words",
	} {
		refuseShort(t, text, 0)
		refuseShort(t, "\x00"+text, 1)
	}
	text := "\x03abc\x00"
	for _, at := range []int{-1, math.MinInt64, len(text), len(text) + 1, math.MaxInt64} {
		refuseShort(t, text, at)
	}
	refuseShort(t, text, 1)
}

func TestReadShortLengthLimit(t *testing.T) {
	for _, length := range []int{impl.MaxText + 1, impl.MaxText + 2, 2 * impl.MaxText, 1 << 21} {
		head, _ := impl.VarText(length)
		refuseShort(t, head+strings.Repeat("x", length), 0)
		refuseShort(t, head+strings.Repeat("x", length+9), 0)
		refuseShort(t, "ab"+head+strings.Repeat("x", length), 2)
	}
	head, _ := impl.VarText(impl.MaxText)
	refuseShort(t, head+strings.Repeat("x", impl.MaxText-1), 0)
	if s, at, ok := impl.ReadShort(head+strings.Repeat("x", impl.MaxText), 0); len(s) != impl.MaxText || at != impl.MaxText+3 || !ok {
		t.Errorf("ReadShort of MaxText bytes = %d bytes, %d, %v", len(s), at, ok)
	}
}

func TestReadShortPlaces(t *testing.T) {
	text := "\x01\x00\x02\xff\x80"
	for _, c := range []struct {
		at   int
		s    string
		next int
	}{{0, "\x00", 2}, {1, "", 2}, {2, "\xff\x80", 5}} {
		if s, next, ok := impl.ReadShort(text, c.at); s != c.s || next != c.next || !ok {
			t.Errorf("ReadShort at %d = %q, %d, %v, want %q, %d", c.at, s, next, ok, c.s, c.next)
		}
	}
}

func TestHexFigures(t *testing.T) {
	for _, c := range []struct{ text, want string }{
		{"", ""},
		{"\x00", "00"},
		{"\x09\x0a\x0f\x10", "090a0f10"},
		{"\x1f\xa0\xf1\xff", "1fa0f1ff"},
		{"\x12\x34\x56\x78\x9a\xbc\xde\xf0", "123456789abcdef0"},
		{"dag", "646167"},
		{strings.Repeat("\xc3", impl.MaxText), strings.Repeat("c3", impl.MaxText)},
	} {
		if got, ok := impl.Hex(c.text); got != c.want || !ok {
			t.Errorf("Hex(%.20q) = %.20q, %v, want %.20q", c.text, got, ok, c.want)
		}
		if got, ok := impl.Unhex(c.want); got != c.text || !ok {
			t.Errorf("Unhex(%.20q) = %.20q, %v, want %.20q", c.want, got, ok, c.text)
		}
	}
}

func TestHexComesBack(t *testing.T) {
	for _, s := range edgeTexts() {
		figures, ok := impl.Hex(s)
		if len(figures) != 2*len(s) || !ok {
			t.Fatalf("Hex of %d bytes = %d figures, %v", len(s), len(figures), ok)
		}
		if got, right := impl.Unhex(figures); got != s || !right {
			t.Fatalf("Unhex of Hex of %d bytes = %d bytes, %v", len(s), len(got), right)
		}
	}
}

func TestHexRefuses(t *testing.T) {
	for _, length := range []int{impl.MaxText + 1, 2 * impl.MaxText, 2*impl.MaxText + 2} {
		if got, ok := impl.Hex(longText(length)); got != "" || ok {
			t.Errorf("Hex of %d bytes = %d figures, %v, want nothing", length, len(got), ok)
		}
	}
}

func refuseUnhex(t *testing.T, text string) {
	t.Helper()
	if got, ok := impl.Unhex(text); got != "" || ok {
		t.Errorf("Unhex(%.20q) of %d bytes = %.20q, %v, want nothing", text, len(text), got, ok)
	}
}

func TestUnhexRefuses(t *testing.T) {
	for _, text := range []string{
		"0", "a", "000", "12345", "0A", "A0", "FF", "fF", "Ff", "0g", "g0", "0x", " 0", "0 ", "00 ", "-1", "+1",
		"00ff0G", "00fF00", "0a0b0c0D", "0\n", "\x000", "\xff\xff", "００",
	} {
		refuseUnhex(t, text)
	}
	refuseUnhex(t, strings.Repeat("0", 2*impl.MaxText-1))
	refuseUnhex(t, strings.Repeat("0", 2*impl.MaxText+1))
	refuseUnhex(t, strings.Repeat("0", 2*impl.MaxText+2))
	refuseUnhex(t, strings.Repeat("0", 2*impl.MaxText-1)+"F")
}

// Every pair of bytes is read just when both are figures of Hex.
func TestUnhexReadsJustItsFigures(t *testing.T) {
	const figures = "0123456789abcdef"
	for a := range 256 {
		for b := range 256 {
			text := string([]byte{byte(a), byte(b)})
			high, low := strings.IndexByte(figures, byte(a)), strings.IndexByte(figures, byte(b))
			if high < 0 || low < 0 {
				refuseUnhex(t, text)
			} else if got, ok := impl.Unhex(text); got != string([]byte{byte(16*high + low)}) || !ok {
				t.Errorf("Unhex(%q) = %q, %v", text, got, ok)
			}
		}
	}
}

func TestDecimalFigures(t *testing.T) {
	for _, c := range []struct {
		n    int
		want string
	}{
		{0, "0"}, {1, "1"}, {9, "9"}, {10, "10"}, {99, "99"}, {100, "100"}, {101, "101"}, {127, "127"}, {128, "128"},
		{impl.MaxNumber - 1, "999999999"}, {impl.MaxNumber, "1000000000"}, {impl.MaxNumber + 1, "1000000001"},
		{-1, "-1"}, {-5, "-5"}, {-10, "-10"}, {-impl.MaxNumber, "-1000000000"},
		{math.MaxInt32, "2147483647"}, {math.MinInt32, "-2147483648"},
		{math.MaxInt64, "9223372036854775807"}, {math.MaxInt64 - 1, "9223372036854775806"},
		{math.MinInt64, "-9223372036854775808"}, {math.MinInt64 + 1, "-9223372036854775807"},
	} {
		if got := impl.Decimal(c.n); got != c.want {
			t.Errorf("Decimal(%d) = %q, want %q", c.n, got, c.want)
		}
	}
}

func TestDecimalComesBack(t *testing.T) {
	for _, n := range edgeNumbers() {
		if got, ok := impl.ReadDecimal(impl.Decimal(n)); got != n || !ok {
			t.Fatalf("ReadDecimal(%q) = %d, %v, want %d", impl.Decimal(n), got, ok, n)
		}
	}
}

func refuseDecimal(t *testing.T, text string) {
	t.Helper()
	if n, ok := impl.ReadDecimal(text); n != 0 || ok {
		t.Errorf("ReadDecimal(%.30q) = %d, %v, want nothing", text, n, ok)
	}
}

func TestReadDecimalRefuses(t *testing.T) {
	for _, n := range wrongNumbers() {
		refuseDecimal(t, impl.Decimal(n))
	}
	for _, text := range []string{
		"", "00", "01", "007", "0000000000", "0000000001", "01000000000", "00000000000000000000",
		"+0", "+1", "-0", "-1", "-", "+", " ", " 1", "1 ", "1 2", "1\n", "\x00", "1\x00",
		"a", "1a", "a1", "1f", "0x1", "0b1", "1e3", "1.0", "1_000", "1,000", "/", ":", "1/", "1:", "１",
		"1000000001", "1000000009", "2000000000", "9999999999", "10000000000", "99999999999",
		"4294967296", "18446744073709551616", "18446744073709551617", "9223372036854775808",
		"36893488147419103233", "340282366920938463463374607431768211457",
	} {
		refuseDecimal(t, text)
	}
	refuseDecimal(t, "1"+strings.Repeat("0", 64))
	refuseDecimal(t, strings.Repeat("9", 5000))
}

// Every text of one and of two bytes is read just when it is a Decimal.
func TestReadDecimalReadsJustDecimals(t *testing.T) {
	written := map[string]int{}
	for n := range 100 {
		written[impl.Decimal(n)] = n
	}
	check := func(text string) {
		want, stands := written[text]
		if n, ok := impl.ReadDecimal(text); n != want || ok != stands {
			t.Errorf("ReadDecimal(%q) = %d, %v, want %d, %v", text, n, ok, want, stands)
		}
	}
	for a := range 256 {
		check(string([]byte{byte(a)}))
		for b := range 256 {
			check(string([]byte{byte(a), byte(b)}))
		}
	}
}

func TestPartsOf(t *testing.T) {
	ten := []string{"a", "b", "c", "d", "e", "f", "g", "h", "i", "j"}
	blanks := strings.Repeat(" ", impl.MaxWords)
	long := strings.Repeat("x", impl.MaxWords)
	for _, c := range []struct {
		line string
		want []string
	}{
		{"", nil},
		{" ", nil},
		{"     ", nil},
		{blanks, nil},
		{"a", []string{"a"}},
		{" a", []string{"a"}},
		{"a ", []string{"a"}},
		{"  a  ", []string{"a"}},
		{"tick 1 2", []string{"tick", "1", "2"}},
		{" tick  1   2 ", []string{"tick", "1", "2"}},
		{"tick tick tick", []string{"tick", "tick", "tick"}},
		{"#a !~ ,.;", []string{"#a", "!~", ",.;"}},
		{"*/5 0 1,15 * 1-5", []string{"*/5", "0", "1,15", "*", "1-5"}},
		{strings.Join(ten, " "), ten},
		{"  " + strings.Join(ten, "   ") + "  ", ten},
		{long, []string{long}},
		{" " + long[2:] + " ", []string{long[2:]}},
		{blanks[1:] + "z", []string{"z"}},
		{"z" + blanks[1:], []string{"z"}},
	} {
		got, ok := impl.PartsOf(c.line)
		if !slices.Equal(got, c.want) || !ok {
			t.Errorf("PartsOf(%.40q) = %.40q, %v, want %.40q", c.line, got, ok, c.want)
		}
	}
}

func refuseParts(t *testing.T, line string) {
	t.Helper()
	if got, ok := impl.PartsOf(line); len(got) != 0 || ok {
		t.Errorf("PartsOf(%.40q) of %d bytes = %.40q, %v, want nothing", line, len(line), got, ok)
	}
}

func TestPartsOfRefuses(t *testing.T) {
	refuseParts(t, strings.Repeat("x", impl.MaxWords+1))
	refuseParts(t, strings.Repeat(" ", impl.MaxWords+1))
	refuseParts(t, strings.Repeat("x", impl.MaxWords)+" ")
	refuseParts(t, " "+strings.Repeat("x", impl.MaxWords))
	refuseParts(t, strings.Repeat("x", 50*impl.MaxWords))
	refuseParts(t, "a b c d e f g h i j k")
	refuseParts(t, "  a  b  c  d  e  f  g  h  i  j  k  ")
	refuseParts(t, strings.Repeat("a ", impl.MaxWords/2))
	for _, line := range []string{"\n", "\t", "a\tb", "a\nb", "a b\n", "a\r", "\x00", "\x7f", "a\x7f", "\x80", "a\u00a0b", "ä", "a \u2003 b", "\x1f", "a\xff"} {
		refuseParts(t, line)
	}
	refuseParts(t, strings.Repeat("x", impl.MaxWords-1)+"\n")
}

// Each byte alone, ahead of, between and behind parts: a blank parts, 33 .. 126 are words, all else is refused.
func TestPartsOfEachByte(t *testing.T) {
	for b := range 256 {
		s := string([]byte{byte(b)})
		for _, line := range []string{s, s + "a", "a" + s, "a" + s + "b"} {
			if b < 32 || b > 126 {
				refuseParts(t, line)
				continue
			}
			want := []string{line}
			if b == 32 {
				want = map[string][]string{" ": {}, " a": {"a"}, "a ": {"a"}, "a b": {"a", "b"}}[line]
			}
			if got, ok := impl.PartsOf(line); !slices.Equal(got, want) || !ok {
				t.Errorf("PartsOf(%q) = %q, %v, want %q", line, got, ok, want)
			}
		}
	}
}

// An answer that is written into leaves the next one as it was.
func TestPartsOfIsNewMemory(t *testing.T) {
	first, _ := impl.PartsOf("tick 1 2")
	first[0] = "gone"
	second, ok := impl.PartsOf("tick 1 2")
	if !slices.Equal(second, []string{"tick", "1", "2"}) || !ok {
		t.Errorf("PartsOf again = %q, %v", second, ok)
	}
}
