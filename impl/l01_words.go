package impl

import (
	"strconv"
	"strings"
)

const (
	MaxText   = 20000
	MaxNumber = 1000000000
	MaxWords  = 600
	MaxParts  = 10
)

const hexFigures = "0123456789abcdef"

func VarText(n int) (string, bool) {
	if n < 0 || n > MaxNumber {
		return "", false
	}
	var out []byte
	for n > 127 {
		out = append(out, byte(n%128+128))
		n /= 128
	}
	return string(append(out, byte(n))), true
}

func ReadVar(text string, at int) (int, int, bool) {
	if at < 0 || at > len(text) {
		return 0, 0, false
	}
	n, unit := 0, 1
	// No number has a byte whose unit is above MaxNumber; stopping there also keeps n from wrapping round.
	for i := at; i < len(text) && unit <= MaxNumber; i++ {
		b := int(text[i])
		n += b % 128 * unit
		if b > 127 {
			unit *= 128
			continue
		}
		longer := b == 0 && i > at
		if longer || n > MaxNumber {
			return 0, 0, false
		}
		return n, i + 1, true
	}
	return 0, 0, false
}

func ShortText(s string) (string, bool) {
	if len(s) > MaxText {
		return "", false
	}
	head, ok := VarText(len(s))
	return head + s, ok
}

func ReadShort(text string, at int) (string, int, bool) {
	n, start, ok := ReadVar(text, at)
	if !ok || n > MaxText || n > len(text)-start {
		return "", 0, false
	}
	end := start + n
	// A piece of text would share its memory.
	return strings.Clone(text[start:end]), end, true
}

func Hex(text string) (string, bool) {
	if len(text) > MaxText {
		return "", false
	}
	out := make([]byte, 0, 2*len(text))
	for i := range len(text) {
		out = append(out, hexFigures[text[i]/16], hexFigures[text[i]%16])
	}
	return string(out), true
}

func Unhex(text string) (string, bool) {
	if len(text) > 2*MaxText {
		return "", false
	}
	out := make([]byte, 0, len(text)/2)
	high := 0
figures:
	for i := range len(text) {
		n := strings.IndexByte(hexFigures, text[i])
		switch {
		case n < 0:
			break figures
		case i%2 == 0:
			high = n
		default:
			out = append(out, byte(high*16+n))
		}
	}
	// Too few bytes came of it when a byte was no figure, and when the last figure stands alone.
	if 2*len(out) != len(text) {
		return "", false
	}
	return string(out), true
}

func Decimal(n int) string { return strconv.Itoa(n) }

func ReadDecimal(text string) (int, bool) {
	n := 0
figures:
	for i := range len(text) {
		switch b := text[i]; {
		// What is above MaxNumber already is refused, whatever follows; going on would wrap round.
		case b < '0', b > '9', n > MaxNumber:
			break figures
		default:
			n = n*10 + int(b-'0')
		}
	}
	// Each number is written in one way only: what was left unread, and needless noughts, show here.
	if n > MaxNumber || Decimal(n) != text {
		return 0, false
	}
	return n, true
}

func PartsOf(line string) ([]string, bool) {
	if len(line) > MaxWords || !printable(line) {
		return []string{}, false
	}
	// Of the bytes that are left, the blank is the only one at which Fields cuts.
	found := strings.Fields(line)
	if len(found) > MaxParts {
		return []string{}, false
	}
	parts := make([]string, 0, len(found))
	for _, part := range found {
		parts = append(parts, strings.Clone(part))
	}
	return parts, true
}

func printable(line string) bool {
	for i := range len(line) {
		if line[i] < 32 || line[i] > 126 {
			return false
		}
	}
	return true
}
