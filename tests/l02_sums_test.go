package tests

import (
	"strings"
	"testing"

	"loop.example/g00188/impl"
)

// SumMore by the chapter's own words, bit by bit
func bitSum(sum uint32, text string) uint32 {
	for at := 0; at < len(text); at++ {
		sum ^= uint32(text[at])
		for range 8 {
			odd := sum%2 == 1
			sum /= 2
			if odd {
				sum ^= 3558460437
			}
		}
	}
	return sum
}

// the four bytes of a sum, the highest first
func bitSumBytes(sum uint32) string {
	return string([]byte{byte(sum / (1 << 24)), byte(sum / (1 << 16) % 256), byte(sum / 256 % 256), byte(sum % 256)})
}

// what Sealed writes of a text, whatever its length
func bitSealed(text string) string {
	return text + bitSumBytes(bitSum(4294967295, text))
}

func beginSums() []uint32 {
	list := []uint32{0, 1, 2, 127, 128, 255, 256, 3558460437, 2147483647, 2147483648, 4294967294, 4294967295}
	for bit := range 32 {
		list = append(list, 1<<bit, 4294967295-1<<bit)
	}
	return list
}

func turned(text string, at int, mask byte) string {
	out := []byte(text)
	out[at] ^= mask
	return string(out)
}

func TestSumMoreFixed(t *testing.T) {
	for _, c := range []struct {
		sum  uint32
		text string
		want uint32
	}{
		{0, "", 0},
		{0, "\x00", 0},
		{0, "\x80", 3558460437},
		{0, "\x40", 3189058079}, // half of 3558460437, which is odd, exclusive-or it
		{0, "\x00\x00\x00", 0},
		{1, "", 1},
		{128, "", 128},
		{128, "\x80", 0},
		{128, "\x00", 3558460437},
		{256, "\x00", 1},
		{65536, "\x00", 256},
		{65536, "\x00\x00", 1},
		{16777216, "\x00", 65536},
		{4294967295, "", 4294967295},
		{4294967295, "\xff", 16777215},
		{4294967295, "123456789", 0x78ceaa89},
	} {
		if got := impl.SumMore(c.sum, c.text); got != c.want {
			t.Errorf("SumMore(%d, %q) = %d, want %d", c.sum, c.text, got, c.want)
		}
	}
}

func TestSumMoreOfEachByte(t *testing.T) {
	for _, sum := range beginSums() {
		for b := range 256 {
			text := string([]byte{byte(b)})
			if got, want := impl.SumMore(sum, text), bitSum(sum, text); got != want {
				t.Fatalf("SumMore(%d, %q) = %d, want %d", sum, text, got, want)
			}
		}
	}
}

func TestSumMoreOfLongerTexts(t *testing.T) {
	texts := append(edgeTexts(), longText(impl.MaxText+1), longText(5*impl.MaxText), strings.Repeat("\x00", 300), strings.Repeat("\xff", 300))
	for _, sum := range []uint32{0, 1, 4294967295} {
		for _, text := range texts {
			if got, want := impl.SumMore(sum, text), bitSum(sum, text); got != want {
				t.Fatalf("SumMore(%d, %d bytes) = %d, want %d", sum, len(text), got, want)
			}
		}
	}
	for _, sum := range beginSums() {
		for length := range 40 {
			text := longText(length + 3)[3:]
			if got, want := impl.SumMore(sum, text), bitSum(sum, text); got != want {
				t.Fatalf("SumMore(%d, %q) = %d, want %d", sum, text, got, want)
			}
		}
	}
}

func TestSumOf(t *testing.T) {
	if got := impl.SumOf(""); got != 4294967295 {
		t.Errorf("SumOf of nothing = %d, want 4294967295", got)
	}
	if got := impl.SumOf("123456789"); got != 0x78ceaa89 {
		t.Errorf("SumOf(123456789) = %d, want %d", got, 0x78ceaa89)
	}
	for _, text := range append(edgeTexts(), longText(impl.MaxText+1)) {
		if got, want := impl.SumOf(text), bitSum(4294967295, text); got != want {
			t.Fatalf("SumOf of %d bytes = %d, want %d", len(text), got, want)
		}
	}
}

func TestSumMoreOfNothing(t *testing.T) {
	for _, sum := range beginSums() {
		if got := impl.SumMore(sum, ""); got != sum {
			t.Errorf("SumMore(%d, nothing) = %d", sum, got)
		}
	}
}

func TestSumMoreGoesOn(t *testing.T) {
	for _, text := range []string{"", "a", "\x00", "ab", "\x00\x00\x00", "plans of tasks", allBytes(), longText(1000)} {
		whole := impl.SumOf(text)
		for at := range len(text) + 1 {
			if got := impl.SumMore(impl.SumOf(text[:at]), text[at:]); got != whole {
				t.Fatalf("of %d bytes, parted at %d: %d, want %d", len(text), at, got, whole)
			}
		}
		byBytes := impl.SumOf("")
		for at := range len(text) {
			byBytes = impl.SumMore(byBytes, text[at:at+1])
		}
		if byBytes != whole {
			t.Errorf("of %d bytes, byte by byte: %d, want %d", len(text), byBytes, whole)
		}
	}
	long := longText(impl.MaxText)
	whole := impl.SumOf(long)
	for _, at := range []int{0, 1, 2, 255, 256, 257, 9999, impl.MaxText - 1, impl.MaxText} {
		if got := impl.SumMore(impl.SumOf(long[:at]), long[at:]); got != whole {
			t.Errorf("of MaxText bytes, parted at %d: %d, want %d", at, got, whole)
		}
	}
}

func TestSealedBytes(t *testing.T) {
	for _, c := range []struct{ text, want string }{
		{"", "\xff\xff\xff\xff"},
		{"\xff", "\xff\x00\xff\xff\xff"},
		{"123456789", "123456789\x78\xce\xaa\x89"},
	} {
		if got, ok := impl.Sealed(c.text); got != c.want || !ok {
			t.Errorf("Sealed(%q) = %q, %v, want %q", c.text, got, ok, c.want)
		}
	}
	for _, text := range edgeTexts() {
		if got, ok := impl.Sealed(text); got != bitSealed(text) || !ok {
			t.Fatalf("Sealed of %d bytes is not as it must be: %v", len(text), ok)
		}
	}
}

func TestSealedComesBack(t *testing.T) {
	for _, text := range edgeTexts() {
		sealed, ok := impl.Sealed(text)
		if len(sealed) != len(text)+4 || !ok {
			t.Fatalf("Sealed of %d bytes = %d bytes, %v", len(text), len(sealed), ok)
		}
		if got, right := impl.Unsealed(sealed); got != text || !right {
			t.Fatalf("Unsealed of Sealed of %d bytes = %d bytes, %v", len(text), len(got), right)
		}
		if got, right := impl.Unsealed(bitSealed(text)); got != text || !right {
			t.Fatalf("Unsealed of %d bytes and their sum = %d bytes, %v", len(text), len(got), right)
		}
	}
	once, _ := impl.Sealed("plan")
	twice, _ := impl.Sealed(once)
	if got, ok := impl.Unsealed(twice); got != once || !ok {
		t.Errorf("Unsealed of a text sealed twice = %q, %v, want %q", got, ok, once)
	}
}

func TestSealedRefuses(t *testing.T) {
	for _, length := range []int{impl.MaxText + 1, impl.MaxText + 2, impl.MaxText + 4, 3 * impl.MaxText} {
		if got, ok := impl.Sealed(longText(length)); got != "" || ok {
			t.Errorf("Sealed of %d bytes = %d bytes, %v, want nothing", length, len(got), ok)
		}
	}
}

func refuseUnsealed(t *testing.T, text string) {
	t.Helper()
	if got, ok := impl.Unsealed(text); got != "" || ok {
		t.Fatalf("Unsealed(%.40q) of %d bytes = %.40q, %v, want nothing", text, len(text), got, ok)
	}
}

// Each byte, those of the sum among them, turned into each other one.
func TestTurnedByteIsNeverUnsealed(t *testing.T) {
	for _, text := range []string{"", "a", "\x00", "\xff", "ab", "\x00\x00", "abc", "plans", "\x00\x00\x00\x00\x00\x00", longText(33), allBytes()} {
		sealed, _ := impl.Sealed(text)
		for at := range len(sealed) {
			for mask := 1; mask < 256; mask++ {
				refuseUnsealed(t, turned(sealed, at, byte(mask)))
			}
		}
		if got, ok := impl.Unsealed(sealed); got != text || !ok {
			t.Errorf("Unsealed of %d bytes as they were sealed = %d bytes, %v", len(text), len(got), ok)
		}
	}
}

func TestTurnedByteOfTheLongestIsNeverUnsealed(t *testing.T) {
	text := longText(impl.MaxText)
	sealed, _ := impl.Sealed(text)
	several := []byte{3, 255, 129, 170, 24, 254, 85}
	for at := range len(sealed) {
		refuseUnsealed(t, turned(sealed, at, 1<<(at%8)))
		refuseUnsealed(t, turned(sealed, at, several[at%len(several)]))
	}
	for at := len(sealed) - 8; at < len(sealed); at++ {
		for mask := 1; mask < 256; mask++ {
			refuseUnsealed(t, turned(sealed, at, byte(mask)))
		}
	}
	if got, ok := impl.Unsealed(sealed); got != text || !ok {
		t.Errorf("Unsealed of MaxText bytes as they were sealed = %d bytes, %v", len(got), ok)
	}
}

func TestUnsealedRefusesShortTexts(t *testing.T) {
	refuseUnsealed(t, "")
	for a := range 256 {
		refuseUnsealed(t, string([]byte{byte(a)}))
		for b := range 256 {
			refuseUnsealed(t, string([]byte{byte(a), byte(b)}))
			refuseUnsealed(t, string([]byte{byte(a), byte(b), 255}))
			refuseUnsealed(t, string([]byte{0, byte(a), byte(b)}))
		}
	}
	if got, ok := impl.Unsealed("\xff\xff\xff\xff"); got != "" || !ok {
		t.Errorf("Unsealed of the sum of nothing = %q, %v, want nothing and true", got, ok)
	}
	refuseUnsealed(t, "\x00\x00\x00\x00")
}

// every order of four places but the first one
func otherOrders() [][4]int {
	var list [][4]int
	for a := range 4 {
		for b := range 4 {
			for c := range 4 {
				d := 6 - a - b - c
				if a == b || a == c || b == c || a == 0 && b == 1 && c == 2 {
					continue
				}
				list = append(list, [4]int{a, b, c, d})
			}
		}
	}
	return list
}

func TestUnsealedRefusesOtherOrders(t *testing.T) {
	for _, text := range []string{"123456789", "a", "ab", "plan", longText(300), longText(impl.MaxText)} {
		sum := bitSumBytes(bitSum(4294967295, text))
		for _, o := range otherOrders() {
			other := string([]byte{sum[o[0]], sum[o[1]], sum[o[2]], sum[o[3]]})
			if other == sum {
				t.Fatalf("the sum of %d bytes has two bytes alike", len(text))
			}
			refuseUnsealed(t, text+other)
		}
		refuseUnsealed(t, sum+text)
	}
	if n := len(otherOrders()); n != 23 {
		t.Errorf("%d other orders, want 23", n)
	}
}

func TestUnsealedRefusesLongTexts(t *testing.T) {
	for _, length := range []int{impl.MaxText + 1, impl.MaxText + 2, impl.MaxText + 4, impl.MaxText + 5, 3 * impl.MaxText} {
		refuseUnsealed(t, bitSealed(longText(length)))
		refuseUnsealed(t, bitSealed(strings.Repeat("\x00", length)))
	}
}

// The sum that is wanted is that of the whole text from its first byte on, and nothing stands behind it.
func TestUnsealedRefusesOtherSums(t *testing.T) {
	for _, text := range []string{"a", "plan", longText(300)} {
		sum := bitSum(4294967295, text)
		for _, wrong := range []uint32{0, 4294967295, ^sum, sum + 1, sum - 1, bitSum(0, text), bitSum(4294967295, text[1:])} {
			refuseUnsealed(t, text+bitSumBytes(wrong))
		}
		sealed := bitSealed(text)
		for cut := range len(sealed) {
			refuseUnsealed(t, sealed[:cut])
			refuseUnsealed(t, sealed[cut+1:])
		}
		for _, more := range []string{"\x00", "\xff", " ", "\n", sealed} {
			refuseUnsealed(t, sealed+more)
			refuseUnsealed(t, more+sealed)
		}
	}
}
