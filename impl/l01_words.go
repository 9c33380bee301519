package impl

import (
	"strconv"
	"strings"
)

const (
	MaxText   = 20000
	MaxNumber = 1000000000
	MaxWords  = 600
	MaxParts  = 10
)

// MaxNumber is below 2 to the 35th: no VarText has more bytes, and a reader that
// stops there can't wrap round on a text that goes on.
const mostVarBytes = 5

// MaxNumber has ten figures; a reader of no more can't wrap round.
const mostFigures = 10

const hexFigures = "0123456789abcdef"

func VarText(n int) (string, bool) {
	if n < 0 || n > MaxNumber {
		return "", false
	}
	out := make([]byte, 0, mostVarBytes)
	for n > 127 {
		out = append(out, byte(n%128+128))
		n /= 128
	}
	out = append(out, byte(n))
	return string(out), true
}

func ReadVar(text string, at int) (int, int, bool) {
	if at < 0 || at > len(text) {
		return 0, 0, false
	}
	n := 0
	scale := 1
	end := min(len(text), at+mostVarBytes)
	for place := at; place < end; place++ {
		b := int(text[place])
		n += b % 128 * scale
		scale *= 128
		if b > 127 {
			continue
		}
		// A last byte of 0 adds nothing: VarText would have stopped ahead of it.
		longer := b == 0 && place > at
		if longer || n > MaxNumber {
			return 0, 0, false
		}
		return n, place + 1, true
	}
	return 0, 0, false
}

func ShortText(s string) (string, bool) {
	if len(s) > MaxText {
		return "", false
	}
	length, ok := VarText(len(s))
	if !ok {
		return "", false
	}
	return length + s, true
}

func ReadShort(text string, at int) (string, int, bool) {
	length, begin, ok := ReadVar(text, at)
	if !ok || length > MaxText || length > len(text)-begin {
		return "", 0, false
	}
	end := begin + length
	return strings.Clone(text[begin:end]), end, true
}

func Hex(text string) (string, bool) {
	if len(text) > MaxText {
		return "", false
	}
	out := make([]byte, 0, 2*len(text))
	for at := 0; at < len(text); at++ {
		b := text[at]
		out = append(out, hexFigures[b/16], hexFigures[b%16])
	}
	return string(out), true
}

func Unhex(text string) (string, bool) {
	if len(text)%2 != 0 || len(text) > 2*MaxText {
		return "", false
	}
	out := make([]byte, 0, len(text)/2)
pairs:
	for at := 0; at < len(text); at += 2 {
		b := 0
		for half := at; half < at+2; half++ {
			value := strings.IndexByte(hexFigures, text[half])
			if value < 0 {
				break pairs
			}
			b = b*16 + value
		}
		out = append(out, byte(b))
	}
	if 2*len(out) != len(text) {
		return "", false
	}
	return string(out), true
}

func Decimal(n int) string { return strconv.Itoa(n) }

func ReadDecimal(text string) (int, bool) {
	if len(text) == 0 || len(text) > mostFigures {
		return 0, false
	}
	if text[0] == '0' && len(text) > 1 {
		return 0, false
	}
	n := 0
	read := 0
figures:
	for read < len(text) {
		switch c := text[read]; {
		case c >= '0' && c <= '9':
			n = n*10 + int(c-'0')
			read++
		default:
			break figures
		}
	}
	if read != len(text) || n > MaxNumber {
		return 0, false
	}
	return n, true
}

func PartsOf(line string) ([]string, bool) {
	if len(line) > MaxWords || !isPlain(line) {
		return []string{}, false
	}
	// Of the bytes of a plain line Fields parts at the blank alone.
	parts := strings.Fields(line)
	if len(parts) > MaxParts {
		return []string{}, false
	}
	for i := range parts {
		parts[i] = strings.Clone(parts[i])
	}
	return parts, true
}

func isPlain(line string) bool {
	for at := 0; at < len(line); at++ {
		if line[at] < 32 || line[at] > 126 {
			return false
		}
	}
	return true
}
