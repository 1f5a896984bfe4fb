package tests

import (
	"math"
	"slices"
	"strings"
	"testing"
	"unsafe"

	"loop.example/g00243/impl"
)

// varOf writes any number at all in the form of VarText, so that what VarText refuses can be handed to ReadVar.
func varOf(n uint64) string {
	var out []byte
	for n > 127 {
		out = append(out, byte(n)|128)
		n >>= 7
	}
	return string(append(out, byte(n)))
}

// allBytes has every byte once.
func allBytes() string {
	var out []byte
	for b := range 256 {
		out = append(out, byte(b))
	}
	return string(out)
}

// textsOf calls each with every text of at most this length over these letters.
func textsOf(letters string, length int, each func(text string)) {
	var grow func(text string)
	grow = func(text string) {
		each(text)
		if len(text) == length {
			return
		}
		for i := range len(letters) {
			grow(text + letters[i:i+1])
		}
	}
	grow("")
}

// shares tells whether two texts have memory in common.
func shares(a, b string) bool {
	if a == "" || b == "" {
		return false
	}
	x, y := uintptr(unsafe.Pointer(unsafe.StringData(a))), uintptr(unsafe.Pointer(unsafe.StringData(b)))
	return x < y+uintptr(len(b)) && y < x+uintptr(len(a))
}

func checkVar(t *testing.T, n int) {
	t.Helper()
	s, ok := impl.VarText(n)
	if !ok || s != varOf(uint64(n)) {
		t.Fatalf("VarText(%d) = %q, %v", n, s, ok)
	}
	for _, around := range [][2]string{{"", ""}, {"\x00", "\x00"}, {"\xff\x80", "\xff"}, {"ab", "\x80\x00"}} {
		text, at := around[0]+s+around[1], len(around[0])
		got, end, ok := impl.ReadVar(text, at)
		if !ok || got != n || end != at+len(s) {
			t.Fatalf("ReadVar(%q, %d) = %d, %d, %v; want %d, %d, true", text, at, got, end, ok, n, at+len(s))
		}
	}
	for cut := range len(s) {
		refuseVar(t, s[:cut], 0)
	}
}

func refuseVar(t *testing.T, text string, at int) {
	t.Helper()
	if n, end, ok := impl.ReadVar(text, at); ok || n != 0 || end != 0 {
		t.Errorf("ReadVar(%q, %d) = %d, %d, %v; want 0, 0, false", text, at, n, end, ok)
	}
}

func TestVarTextBytes(t *testing.T) {
	for n, want := range map[int]string{
		0:              "\x00",
		1:              "\x01",
		127:            "\x7f",
		128:            "\x80\x01",
		300:            "\xac\x02",
		16383:          "\xff\x7f",
		16384:          "\x80\x80\x01",
		impl.MaxNumber: "\x80\x94\xeb\xdc\x03",
	} {
		if s, ok := impl.VarText(n); !ok || s != want {
			t.Errorf("VarText(%d) = %q, %v; want %q", n, s, ok, want)
		}
	}
}

func TestVarTextRefuses(t *testing.T) {
	for _, n := range []int{-1, -128, impl.MaxNumber + 1, 1 << 30, 1 << 32, math.MinInt, math.MaxInt} {
		if s, ok := impl.VarText(n); ok || s != "" {
			t.Errorf("VarText(%d) = %q, %v; want false", n, s, ok)
		}
	}
}

func TestVarComesBack(t *testing.T) {
	for n := range 20000 {
		checkVar(t, n)
	}
	for n := 20000; n <= impl.MaxNumber; n += 100003 {
		checkVar(t, n)
	}
	for _, edge := range []int{1 << 14, 1 << 21, 1 << 28} {
		checkVar(t, edge-1)
		checkVar(t, edge)
		checkVar(t, edge+1)
	}
	checkVar(t, impl.MaxNumber-1)
	checkVar(t, impl.MaxNumber)
}

func TestReadVarRefusesLongerForms(t *testing.T) {
	for _, text := range []string{"\x80\x00", "\x81\x00", "\xff\x00", "\xac\x82\x00", "\x80\x80\x00", "\x80\x80\x80\x80\x00",
		"\x80\x94\xeb\xdc\x83\x00", strings.Repeat("\x80", 9) + "\x00", strings.Repeat("\x80", 40) + "\x00"} {
		refuseVar(t, text, 0)
		refuseVar(t, "\x05"+text+"\x05", 1)
	}
}

func TestReadVarRefusesGreaterNumbers(t *testing.T) {
	for _, n := range []uint64{impl.MaxNumber + 1, 1 << 30, 1<<35 - 1, 1 << 35, 1<<35 + 5, 1 << 42, 1<<63 + 5, math.MaxUint64} {
		refuseVar(t, varOf(n), 0)
	}
	// These would be 5 and 0 in 64 bits that wrap round.
	refuseVar(t, "\x85"+strings.Repeat("\x80", 8)+"\x02", 0)
	refuseVar(t, strings.Repeat("\x80", 10)+"\x01", 0)
	refuseVar(t, strings.Repeat("\xff", 100)+"\x01", 0)
}

func TestReadVarPlaces(t *testing.T) {
	text := "\x01\xac\x02"
	for _, at := range []int{-1, -3, 3, 4, 5, math.MinInt, math.MaxInt} {
		refuseVar(t, text, at)
	}
	for _, at := range []int{-1, 0, 1} {
		refuseVar(t, "", at)
	}
	if n, end, ok := impl.ReadVar(text, 2); !ok || n != 2 || end != 3 {
		t.Errorf("ReadVar at the last byte = %d, %d, %v", n, end, ok)
	}
}

func TestReadVarReadsOnlyWhatIsWritten(t *testing.T) {
	textsOf("\x00\x01\x02\x03\x7f\x80\x81\x94\xdc\xeb\xff", 5, func(text string) {
		n, end, ok := impl.ReadVar(text, 0)
		if !ok {
			refuseVar(t, text, 0)
			return
		}
		if s, right := impl.VarText(n); !right || s != text[:end] {
			t.Fatalf("ReadVar(%q) = %d, %d, but VarText of it is %q", text, n, end, s)
		}
	})
}

func refuseShort(t *testing.T, text string, at int) {
	t.Helper()
	if s, end, ok := impl.ReadShort(text, at); ok || s != "" || end != 0 {
		t.Errorf("ReadShort of %d bytes at %d = %d bytes, %d, %v; want nothing, 0, false", len(text), at, len(s), end, ok)
	}
}

func TestShortTextComesBack(t *testing.T) {
	for _, s := range []string{"", "a", "\x00", "\x80", "two words", allBytes(), strings.Repeat("x", 127), strings.Repeat("y", 128),
		strings.Repeat("\xff", impl.MaxText-1), strings.Repeat("z", impl.MaxText)} {
		short, ok := impl.ShortText(s)
		if !ok || short != varOf(uint64(len(s)))+s {
			t.Fatalf("ShortText of %d bytes: %d bytes, %v", len(s), len(short), ok)
		}
		for _, around := range [][2]string{{"", ""}, {"\x80", "more"}, {"abc", "\x00"}} {
			at := len(around[0])
			got, end, ok := impl.ReadShort(around[0]+short+around[1], at)
			if !ok || got != s || end != at+len(short) {
				t.Fatalf("ReadShort of %d bytes at %d: %d bytes, %d, %v", len(s), at, len(got), end, ok)
			}
		}
		for _, cut := range []int{0, 1, len(short) / 2, len(short) - 1} {
			if cut < len(short) {
				refuseShort(t, short[:cut], 0)
			}
		}
	}
}

func TestShortTextRefuses(t *testing.T) {
	for _, length := range []int{impl.MaxText + 1, 3 * impl.MaxText} {
		long := strings.Repeat("a", length)
		if s, ok := impl.ShortText(long); ok || s != "" {
			t.Errorf("ShortText of %d bytes: %d bytes, %v; want false", length, len(s), ok)
		}
		refuseShort(t, varOf(uint64(length))+long, 0)
	}
}

func TestReadShortRefuses(t *testing.T) {
	for _, text := range []string{"", "\x01", "\x02a", "\x80", "\x81\x00a", "\x80\x00", varOf(impl.MaxNumber) + "abc",
		varOf(impl.MaxNumber+1) + "abc", varOf(math.MaxUint64) + "abc"} {
		refuseShort(t, text, 0)
		refuseShort(t, "\x00\x00"+text, 2)
	}
	for _, at := range []int{-1, 3, 4, 100, math.MinInt, math.MaxInt} {
		refuseShort(t, "\x02ab", at)
	}
}

func TestHexFigures(t *testing.T) {
	for text, want := range map[string]string{"": "", "\x00": "00", "\x0f\xf0": "0ff0", "Az9": "417a39", "\xde\xad\xbe\xef": "deadbeef"} {
		if s, ok := impl.Hex(text); !ok || s != want {
			t.Errorf("Hex(%q) = %q, %v; want %q", text, s, ok, want)
		}
	}
}

func TestHexComesBack(t *testing.T) {
	for _, text := range []string{"", "a", allBytes(), strings.Repeat("\xff\x00", impl.MaxText/2)} {
		figures, ok := impl.Hex(text)
		if !ok || len(figures) != 2*len(text) {
			t.Fatalf("Hex of %d bytes: %d figures, %v", len(text), len(figures), ok)
		}
		if got, ok := impl.Unhex(figures); !ok || got != text {
			t.Fatalf("Unhex of the Hex of %d bytes: %d bytes, %v", len(text), len(got), ok)
		}
	}
}

func TestHexRefuses(t *testing.T) {
	long := strings.Repeat("a", impl.MaxText+1)
	if s, ok := impl.Hex(long); ok || s != "" {
		t.Errorf("Hex of MaxText bytes and one more: %d figures, %v; want false", len(s), ok)
	}
}

func refuseUnhex(t *testing.T, text string) {
	t.Helper()
	if s, ok := impl.Unhex(text); ok || s != "" {
		t.Errorf("Unhex of %d bytes = %d bytes, %v; want nothing, false", len(text), len(s), ok)
	}
}

func TestUnhexRefuses(t *testing.T) {
	for _, text := range []string{"0", "000", "0A", "A0", "FF", "0x", "0x00", " 00", "00 ", "0 0", "-1", "00g", "\xc3\xa9"} {
		refuseUnhex(t, text)
	}
	for _, length := range []int{2*impl.MaxText + 1, 2*impl.MaxText + 2, 2*impl.MaxText + 200} {
		refuseUnhex(t, strings.Repeat("0", length))
	}
	for b := range 256 {
		one := string([]byte{byte(b)})
		if strings.Contains("0123456789abcdef", one) {
			continue
		}
		for _, text := range []string{one + "0", "0" + one, "00" + one + "000", "000" + one + "00", "00" + one, one + one} {
			refuseUnhex(t, text)
		}
	}
}

func TestUnhexReadsOnlyWhatIsWritten(t *testing.T) {
	textsOf("09afAg/:`", 4, func(text string) {
		s, ok := impl.Unhex(text)
		if !ok {
			refuseUnhex(t, text)
			if strings.Trim(text, "09af") == "" && len(text)%2 == 0 {
				t.Fatalf("Unhex(%q) is false", text)
			}
			return
		}
		if back, right := impl.Hex(s); !right || back != text {
			t.Fatalf("Unhex(%q) = %q, but Hex of it is %q", text, s, back)
		}
	})
}

func TestDecimalFigures(t *testing.T) {
	for n, want := range map[int]string{
		0:              "0",
		7:              "7",
		10:             "10",
		99:             "99",
		100:            "100",
		-1:             "-1",
		-10:            "-10",
		-999:           "-999",
		impl.MaxNumber: "1000000000",
		math.MaxInt:    "9223372036854775807",
		math.MinInt:    "-9223372036854775808",
	} {
		if s := impl.Decimal(n); s != want {
			t.Errorf("Decimal(%d) = %q; want %q", n, s, want)
		}
	}
}

func checkDecimal(t *testing.T, n int) {
	t.Helper()
	if got, ok := impl.ReadDecimal(impl.Decimal(n)); !ok || got != n {
		t.Fatalf("ReadDecimal of Decimal(%d) = %d, %v", n, got, ok)
	}
}

func refuseDecimal(t *testing.T, text string) {
	t.Helper()
	if n, ok := impl.ReadDecimal(text); ok || n != 0 {
		t.Errorf("ReadDecimal(%q) = %d, %v; want 0, false", text, n, ok)
	}
}

func TestDecimalComesBack(t *testing.T) {
	for n := range 20000 {
		checkDecimal(t, n)
	}
	for n := 20000; n <= impl.MaxNumber; n += 10007 {
		checkDecimal(t, n)
	}
	checkDecimal(t, impl.MaxNumber-1)
	checkDecimal(t, impl.MaxNumber)
}

func TestReadDecimalRefuses(t *testing.T) {
	for _, text := range []string{"", "-", "+", "-0", "-1", "+1", "--1", "00", "01", "007", "0000000001", " 1", "1 ", "1 2", "1_0", "1e3", "0x1",
		"1.0", "1a", "a1", "1\x00", "1/", "1:", "/", ":", "\xef\xbc\x91", "\xd9\xa1"} {
		refuseDecimal(t, text)
	}
	for _, n := range []int{-1, math.MinInt, impl.MaxNumber + 1, 9999999999, 10000000000, math.MaxInt} {
		refuseDecimal(t, impl.Decimal(n))
	}
	// These would be 1 and 0 in 64 bits that wrap round.
	refuseDecimal(t, "18446744073709551617")
	refuseDecimal(t, "18446744073709551616")
	refuseDecimal(t, strings.Repeat("9", 400))
	refuseDecimal(t, strings.Repeat("0", 400)+"1")
	refuseDecimal(t, "1"+strings.Repeat("0", 400))
}

func TestReadDecimalReadsOnlyWhatIsWritten(t *testing.T) {
	textsOf("0129-+ /:", 4, func(text string) {
		n, ok := impl.ReadDecimal(text)
		if !ok {
			refuseDecimal(t, text)
			if text != "" && strings.Trim(text, "0129") == "" && (text[0] != '0' || text == "0") {
				t.Fatalf("ReadDecimal(%q) is false", text)
			}
			return
		}
		if impl.Decimal(n) != text {
			t.Fatalf("ReadDecimal(%q) = %d, but Decimal of it is %q", text, n, impl.Decimal(n))
		}
	})
}

func checkParts(t *testing.T, line string, want ...string) {
	t.Helper()
	if parts, ok := impl.PartsOf(line); !ok || !slices.Equal(parts, want) {
		t.Errorf("PartsOf(%q) = %q, %v; want %q", line, parts, ok, want)
	}
}

func refuseParts(t *testing.T, line string) {
	t.Helper()
	if parts, ok := impl.PartsOf(line); ok || len(parts) != 0 {
		t.Errorf("PartsOf(%q) = %q, %v; want nothing, false", line, parts, ok)
	}
}

func TestPartsOf(t *testing.T) {
	checkParts(t, "")
	checkParts(t, " ")
	checkParts(t, "     ")
	checkParts(t, "a", "a")
	checkParts(t, "one two", "one", "two")
	checkParts(t, "  one   two ", "one", "two")
	checkParts(t, "b a b", "b", "a", "b")
	checkParts(t, "!\"# ~}| -1,2;", "!\"#", "~}|", "-1,2;")
}

func TestPartsOfLimits(t *testing.T) {
	ten := strings.Split("a b c d e f g h i j", " ")
	checkParts(t, strings.Join(ten, " "), ten...)
	checkParts(t, " "+strings.Join(ten, "  ")+"  ", ten...)
	refuseParts(t, strings.Join(ten, " ")+" k")
	refuseParts(t, strings.Repeat("a ", impl.MaxWords/2))
	whole := strings.Repeat("w", impl.MaxWords)
	checkParts(t, whole, whole)
	refuseParts(t, whole+"w")
	checkParts(t, whole[1:]+" ", whole[1:])
	refuseParts(t, whole+" ")
	checkParts(t, strings.Repeat(" ", impl.MaxWords))
	refuseParts(t, strings.Repeat(" ", impl.MaxWords+1))
}

func TestPartsOfBytes(t *testing.T) {
	for b := range 256 {
		one := string([]byte{byte(b)})
		if b > 32 && b < 127 {
			checkParts(t, "x "+one+" y", "x", one, "y")
			checkParts(t, "x"+one+"y", "x"+one+"y")
			continue
		}
		if b == 32 {
			continue
		}
		for _, line := range []string{one, one + " x", "x" + one + "y", "x " + one + " y", "x " + one, " " + one + " "} {
			refuseParts(t, line)
		}
	}
	refuseParts(t, "caf\xc3\xa9")
	refuseParts(t, "a\xc2\xa0b")
}

func TestWordsAnswerNewMemory(t *testing.T) {
	short := "\x05" + "hello"
	s, _, _ := impl.ReadShort(short, 0)
	if shares(s, short) {
		t.Error("ReadShort hands out a piece of its argument")
	}
	line := "one  two " + strings.Repeat("x", 40)
	parts, _ := impl.PartsOf(line)
	for _, part := range parts {
		if shares(part, line) {
			t.Errorf("PartsOf hands out a piece of its argument: %q", part)
		}
	}
}
