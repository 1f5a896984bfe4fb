package tests

import (
	"strings"
	"testing"

	"loop.example/g00243/impl"
)

// slowSum goes bit by bit, as the document's words do.
func slowSum(sum uint32, text string) uint32 {
	for i := range len(text) {
		sum ^= uint32(text[i])
		for range 8 {
			odd := sum%2 == 1
			sum /= 2
			if odd {
				sum ^= 3558460437
			}
		}
	}
	return sum
}

func slowSealed(text string) string {
	sum := slowSum(4294967295, text)
	return text + string([]byte{byte(sum / 16777216), byte(sum / 65536 % 256), byte(sum / 256 % 256), byte(sum % 256)})
}

// mixedText has so many bytes, all kinds of them, in no plain order.
func mixedText(length int) string {
	out := make([]byte, length)
	n := uint32(2463534242)
	for i := range out {
		n = n*1664525 + 1013904223
		out[i] = byte(n >> 24)
	}
	return string(out)
}

// withByte is the text with another byte at one place.
func withByte(text string, at int, b byte) string {
	return text[:at] + string([]byte{b}) + text[at+1:]
}

func sumTexts() []string {
	return []string{"", "\x00", "\x00\x00", "a", "abc", "\xff", "\xff\xff\xff\xff", "\x80", "123456789", "two words\n", allBytes(), mixedText(1000)}
}

func edgeSums() []uint32 {
	sums := []uint32{0, 4294967295, 4294967294, 3558460437, 2147483647, 305419896}
	for bit := range 32 {
		sums = append(sums, 1<<bit)
	}
	return sums
}

func TestSumMoreNumbers(t *testing.T) {
	for _, c := range []struct {
		sum  uint32
		text string
		want uint32
	}{
		{0, "", 0},
		{4294967295, "", 4294967295},
		{0, "\x00", 0},
		{0, "\x80", 3558460437},
		{128, "\x00", 3558460437},
		{128, "\x80", 0},
		{256, "\x00", 1},
		{2147483648, "\x00", 8388608},
		{0, "a", 517710666},
		{0, "123456789", 2518010058},
		{4294967295, "\x00", 2175125468},
		{4294967295, "\xff\xff\xff\xff", 0},
	} {
		if got := impl.SumMore(c.sum, c.text); got != c.want {
			t.Errorf("SumMore(%d, %q) = %d; want %d", c.sum, c.text, got, c.want)
		}
	}
}

func TestSumOfNumbers(t *testing.T) {
	for text, want := range map[string]uint32{
		"":                 4294967295,
		"\x00":             2175125468,
		"a":                2675860630,
		"abc":              2815232641,
		"123456789":        2026809993,
		"\xff\xff\xff\xff": 0,
		allBytes():         2660958145,
	} {
		if got := impl.SumOf(text); got != want {
			t.Errorf("SumOf(%q) = %d; want %d", text, got, want)
		}
	}
}

func TestSumMoreByteByByte(t *testing.T) {
	for _, sum := range edgeSums() {
		for b := range 256 {
			one := string([]byte{byte(b)})
			if got, want := impl.SumMore(sum, one), slowSum(sum, one); got != want {
				t.Fatalf("SumMore(%d, %q) = %d; want %d", sum, one, got, want)
			}
		}
		for _, text := range sumTexts() {
			if got, want := impl.SumMore(sum, text), slowSum(sum, text); got != want {
				t.Fatalf("SumMore(%d, %q) = %d; want %d", sum, text, got, want)
			}
		}
	}
}

func TestSumMoreOfNoBytes(t *testing.T) {
	for _, sum := range edgeSums() {
		if got := impl.SumMore(sum, ""); got != sum {
			t.Errorf("SumMore(%d, \"\") = %d", sum, got)
		}
	}
}

func TestSumMoreGoesOn(t *testing.T) {
	for _, text := range sumTexts() {
		whole := impl.SumOf(text)
		if first := impl.SumMore(4294967295, text); first != whole {
			t.Fatalf("SumMore of 4294967295 and %q = %d, SumOf it %d", text, first, whole)
		}
		for cut := range len(text) + 1 {
			if got := impl.SumMore(impl.SumOf(text[:cut]), text[cut:]); got != whole {
				t.Fatalf("%q cut at %d: %d; want %d", text, cut, got, whole)
			}
		}
	}
	for _, sum := range edgeSums() {
		for _, a := range sumTexts() {
			for _, b := range sumTexts() {
				if got, want := impl.SumMore(impl.SumMore(sum, a), b), impl.SumMore(sum, a+b); got != want {
					t.Fatalf("SumMore of %d, %q and %q: %d; want %d", sum, a, b, got, want)
				}
			}
		}
	}
}

// No length is too great for a sum, whatever Sealed refuses.
func TestSumsOfLongTexts(t *testing.T) {
	for _, length := range []int{impl.MaxText, impl.MaxText + 1, 5 * impl.MaxText} {
		text := mixedText(length)
		if got, want := impl.SumOf(text), slowSum(4294967295, text); got != want {
			t.Errorf("SumOf %d bytes = %d; want %d", length, got, want)
		}
		if got, want := impl.SumMore(0, text), slowSum(0, text); got != want {
			t.Errorf("SumMore of 0 and %d bytes = %d; want %d", length, got, want)
		}
	}
}

func checkSealed(t *testing.T, text string) string {
	t.Helper()
	sealed, ok := impl.Sealed(text)
	if !ok || sealed != slowSealed(text) {
		t.Fatalf("Sealed of %d bytes: %d bytes, %v; not as they should be", len(text), len(sealed), ok)
	}
	got, ok := impl.Unsealed(sealed)
	if !ok || got != text {
		t.Fatalf("Unsealed of the Sealed of %d bytes: %d bytes, %v", len(text), len(got), ok)
	}
	return sealed
}

func refuseUnsealed(t *testing.T, text string) {
	t.Helper()
	if got, ok := impl.Unsealed(text); ok || got != "" {
		t.Fatalf("Unsealed of %d bytes (%.20q ..) = %d bytes, %v; want nothing, false", len(text), text, len(got), ok)
	}
}

func TestSealedBytes(t *testing.T) {
	for text, want := range map[string]string{
		"":                 "\xff\xff\xff\xff",
		"\x00":             "\x00\x81\xa5\xc7\xdc",
		"a":                "a\x9f\x7e\x64\x96",
		"abc":              "abc\xa7\xcd\x0a\x81",
		"\xff\xff\xff\xff": "\xff\xff\xff\xff\x00\x00\x00\x00",
	} {
		if sealed, ok := impl.Sealed(text); !ok || sealed != want {
			t.Errorf("Sealed(%q) = %q, %v; want %q", text, sealed, ok, want)
		}
	}
}

func TestSealedComesBack(t *testing.T) {
	for _, text := range sumTexts() {
		// What is sealed may be sealed once more.
		checkSealed(t, checkSealed(t, text))
	}
	for length := range 300 {
		checkSealed(t, mixedText(length))
	}
}

func TestSealedLimits(t *testing.T) {
	for _, length := range []int{impl.MaxText - 1, impl.MaxText} {
		checkSealed(t, mixedText(length))
		checkSealed(t, strings.Repeat("\x00", length))
	}
	for _, length := range []int{impl.MaxText + 1, impl.MaxText + 4, impl.MaxText + 5, 3 * impl.MaxText} {
		text := mixedText(length)
		if sealed, ok := impl.Sealed(text); ok || sealed != "" {
			t.Errorf("Sealed of %d bytes: %d bytes, %v; want false", length, len(sealed), ok)
		}
		// The sum is right, but no text that may be sealed stands ahead of it.
		refuseUnsealed(t, slowSealed(text))
	}
}

func TestTurnedBytesAreRefused(t *testing.T) {
	for _, text := range []string{"", "\x00", "a", "abc", "\xff\xff\xff\xff", "123456789", strings.Repeat("\x00", 40), allBytes()} {
		sealed := checkSealed(t, text)
		for at := range len(sealed) {
			for b := range 256 {
				if byte(b) != sealed[at] {
					refuseUnsealed(t, withByte(sealed, at, byte(b)))
				}
			}
		}
	}
}

func TestTurnedBitsOfLongTextsAreRefused(t *testing.T) {
	for _, length := range []int{1000, impl.MaxText} {
		sealed := checkSealed(t, mixedText(length))
		step := len(sealed)/97 + 1
		for at := 0; at < len(sealed); at += step {
			for bit := range 8 {
				refuseUnsealed(t, withByte(sealed, at, sealed[at]^1<<bit))
			}
		}
		for at := len(sealed) - 5; at < len(sealed); at++ {
			for bit := range 8 {
				refuseUnsealed(t, withByte(sealed, at, sealed[at]^1<<bit))
			}
		}
	}
}

func TestUnsealedRefusesShortTexts(t *testing.T) {
	textsOf("\x00\x01\xfe\xff", 3, func(text string) { refuseUnsealed(t, text) })
	for b := range 256 {
		refuseUnsealed(t, string([]byte{byte(b)}))
	}
	refuseUnsealed(t, "\x00\x00\x00\x00")
}

// ordersOf calls each with the four bytes in every order.
func ordersOf(four string, each func(order string)) {
	var grow func(order, rest string)
	grow = func(order, rest string) {
		if rest == "" {
			each(order)
		}
		for i := range len(rest) {
			grow(order+rest[i:i+1], rest[:i]+rest[i+1:])
		}
	}
	grow("", four)
}

func TestUnsealedRefusesOtherOrders(t *testing.T) {
	for _, text := range []string{"\x00", "a", "abc", "123456789", allBytes()} {
		sum := checkSealed(t, text)[len(text):]
		orders := 0
		ordersOf(sum, func(order string) {
			if order != sum {
				orders++
				refuseUnsealed(t, text+order)
			}
		})
		if orders != 23 {
			t.Fatalf("the sum of %q has two bytes alike: %q", text, sum)
		}
		refuseUnsealed(t, sum+text)
	}
}

// checkUnsealed asks the slow sum whether the text is a sealed one, and tells that.
func checkUnsealed(t *testing.T, text string) bool {
	t.Helper()
	end := len(text) - 4
	if end < 0 || end > impl.MaxText || slowSealed(text[:end]) != text {
		refuseUnsealed(t, text)
		return false
	}
	if got, ok := impl.Unsealed(text); !ok || got != text[:end] {
		t.Fatalf("Unsealed(%q) = %q, %v; want %q", text, got, ok, text[:end])
	}
	return true
}

func TestUnsealedRefusesBytesMoreOrLess(t *testing.T) {
	for _, text := range []string{"", "\x00", "a", "abc", "123456789", allBytes()} {
		sealed := checkSealed(t, text)
		for b := range 256 {
			one := string([]byte{byte(b)})
			refuseUnsealed(t, sealed+one)
			refuseUnsealed(t, one+sealed)
			// A byte put within may make the seal of another text: "\xff" is sealed as "\xff\x00\xff\xff\xff".
			for at := range len(sealed) {
				checkUnsealed(t, sealed[:at]+one+sealed[at:])
			}
		}
		for at := range len(sealed) {
			refuseUnsealed(t, sealed[:at]+sealed[at+1:])
		}
		refuseUnsealed(t, sealed+sealed)
	}
	sealed := checkSealed(t, mixedText(impl.MaxText))
	for _, text := range []string{sealed + "\x00", "\x00" + sealed, sealed[1:], sealed[:len(sealed)-1], sealed[:impl.MaxText]} {
		refuseUnsealed(t, text)
	}
}

func TestUnsealedReadsOnlyWhatIsSealed(t *testing.T) {
	found := 0
	textsOf("\x00\x81\xa5\xc7\xdc\xff", 6, func(text string) {
		if checkUnsealed(t, text) {
			found++
		}
	})
	if found == 0 {
		t.Error("none of the texts was a sealed one")
	}
}

func TestSumsAnswerNewMemory(t *testing.T) {
	text := mixedText(50)
	sealed, _ := impl.Sealed(text)
	if shares(sealed, text) {
		t.Error("Sealed shares memory with its argument")
	}
	if got, _ := impl.Unsealed(sealed); shares(got, sealed) {
		t.Error("Unsealed hands out a piece of its argument")
	}
}
