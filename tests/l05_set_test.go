package tests

import (
	"regexp"
	"slices"
	"strings"
	"testing"

	"loop.example/g00243/impl"
)

// setBytes are all bytes that a set may have, in their order.
const setBytes = "0123456789" + smallLetters

var (
	wholeSet = regexp.MustCompile(`\A(?:[a-z]-[a-z]|[0-9]-[0-9]|[a-z]|[0-9])+\z`)
	setPiece = regexp.MustCompile(`[a-z0-9](?:-[a-z0-9])?`)
)

// slowSetBytes goes piece by piece through the text, as the document's words do; empty when it is no set.
func slowSetBytes(s string) string {
	if len(s) > 12 || !wholeSet.MatchString(s) {
		return ""
	}
	has := map[byte]bool{}
	for _, piece := range setPiece.FindAllString(s, -1) {
		first, last := piece[0], piece[len(piece)-1]
		if last < first {
			return ""
		}
		for b := int(first); b <= int(last); b++ {
			has[byte(b)] = true
		}
	}
	return bytesThat(func(b byte) bool { return has[b] })
}

// bytesThat has, in order, all bytes of a set's for which this holds.
func bytesThat(holds func(b byte) bool) string {
	out := ""
	for i := range len(setBytes) {
		if holds(setBytes[i]) {
			out += setBytes[i : i+1]
		}
	}
	return out
}

// slowSetOf writes the figures and the letters apart, each row of three or more shortened.
func slowSetOf(some string) (string, bool) {
	if strings.Trim(some, setBytes) != "" {
		return "", false
	}
	out := ""
	for _, kind := range []string{"0123456789", smallLetters} {
		marks := ""
		for i := range len(kind) {
			mark := " "
			if strings.Contains(some, kind[i:i+1]) {
				mark = kind[i : i+1]
			}
			marks += mark
		}
		for _, row := range strings.Fields(marks) {
			if len(row) > 2 {
				row = row[:1] + "-" + row[len(row)-1:]
			}
			out += row
		}
	}
	if out == "" || len(out) > 12 {
		return "", false
	}
	return out, true
}

func slowJoined(a, b string) (string, bool) {
	x, y := slowSetBytes(a), slowSetBytes(b)
	if x == "" || y == "" {
		return "", false
	}
	return slowSetOf(x + y)
}

func slowMet(a, b string) (string, bool) {
	x, y := slowSetBytes(a), slowSetBytes(b)
	return slowSetOf(bytesThat(func(c byte) bool {
		return strings.IndexByte(x, c) >= 0 && strings.IndexByte(y, c) >= 0
	}))
}

// wrongSets are texts that are no set, each for one cause.
func wrongSets() []string {
	return []string{
		"", "-", "--", "---", "-a", "-a-c", "a-", "ab-", "a-c-", "0-9-", "a-c-e", "a-c-e-g", "0-3-9", "a--c", "a-c--e", "a--",
		"b-a", "z-a", "9-0", "1-0", "ac-b", "a-cz-y", "c-ab", "0-91-0",
		"a-9", "z-0", "a-0", "9-a", "0-z", "0-a", "0-9a-9", "a-z9-a",
		"A", "Z", "A-Z", "aB", "a-Z", "A-z", "a-cD",
		" ", "a b", " a", "a ", "a -c", "a- c", "a\nb", "a\x00", "\x00", "\x00-a", "a-\x00",
		"/", ":", "`", "{", "a-{", "`-c", "/-3", "0-:", "z{", "+", "a,c", "[a]",
		"\x80", "a\xff", "\xe1", "a-\xe1", "\xe1-z", "é", "aé", "\xb0", "0-\xb9",
		"acegikmoqsuwy", "aaaaaaaaaaaaa", "a-ce-gi-km-oq", "a-ca-ca-ca-c0", "acegikmoqsu-w", "0123456789ab-", strings.Repeat("a", 14), strings.Repeat("a", 1000), strings.Repeat("a-c", 5000),
	}
}

// rightSets are sets of all forms: bytes alone, rows, both, bytes told twice, out of order, and of 12 bytes.
func rightSets() []string {
	return []string{
		"a", "z", "0", "9", "ab", "ac", "abc", "abd", "09", "012", "a0", "9a", "a9", "89ab", "yz", "xyz",
		"a-a", "0-0", "z-z", "9-9", "a-b", "a-c", "0-1", "0-2", "8-9a-b", "7-9a-c", "a-z", "0-9", "0-9a-z", "a-z0-9",
		"b-dx", "xb-d", "x0b-d", "a-ce", "1-3m5", "aa", "aba", "a-cb", "ba-c", "a-ea-c", "a-cb-d", "a-cd-f", "c-ea-c", "a-ca-c",
		"ba", "za", "z0", "a-c0", "x-za-c", "9876543210", "cba", "d-fa-c0-2",
		"acegikmoqsuw", "wusqomkigeca", "a-ce-gi-km-o", "m-oi-ke-ga-c", "0-24-6acegik", "a-cegikmoqsu", "aaaaaaaaaaaa", "a-aa-aa-aa-a", "013467acdfgi",
		"a-eg-km-qs-z", "a-bd-hj-np-r", "a-bd-hj-np-s",
	}
}

// someSets calls each with texts that a seed has chosen, of all lengths up to 14, most of them nearly sets.
func someSets(count int, each func(s string)) {
	seed := uint64(count)
	next := func(n int) int {
		seed = seed*6364136223846793005 + 1442695040888963407
		return int(seed>>33) % n
	}
	for range count {
		s := ""
		for length := next(6); length >= 0; length-- {
			first := next(len(setBytes))
			s += setBytes[first : first+1]
			if next(2) == 0 {
				last := min(first+next(8), len(setBytes)-1)
				s += "-" + setBytes[last:last+1]
			}
		}
		each(s)
	}
}

func checkSetBytes(t *testing.T, s, want string) {
	t.Helper()
	if !impl.SetOk(s) {
		t.Fatalf("SetOk(%q) = false", s)
	}
	checkHas(t, s, want)
}

// checkHas asks for each byte there is.
func checkHas(t *testing.T, s, want string) {
	t.Helper()
	if got := impl.SetBytes(s); got != want {
		t.Fatalf("SetBytes(%q) = %q, not %q", s, got, want)
	}
	for b := range 256 {
		has := strings.IndexByte(want, byte(b)) >= 0
		if got := impl.InSet(s, byte(b)); got != has {
			t.Fatalf("InSet(%q, %q) = %v", s, byte(b), got)
		}
	}
}

func refuseSetText(t *testing.T, s string) {
	t.Helper()
	if impl.SetOk(s) {
		t.Fatalf("SetOk(%q) = true", s)
	}
	checkHas(t, s, "")
}

func checkSetOf(t *testing.T, some, want string) {
	t.Helper()
	if got, ok := impl.SetOf(some); !ok || got != want {
		t.Fatalf("SetOf(%q) = %q, %v, not %q", some, got, ok, want)
	}
}

func refuseSetOf(t *testing.T, some string) {
	t.Helper()
	if got, ok := impl.SetOf(some); ok || got != "" {
		t.Fatalf("SetOf(%q) = %q, %v", some, got, ok)
	}
}

// checkJoin holds in both orders, for joining does not ask which is first.
func checkJoin(t *testing.T, a, b, want string, right bool) {
	t.Helper()
	for _, two := range [][2]string{{a, b}, {b, a}} {
		if got, ok := impl.JoinSets(two[0], two[1]); ok != right || got != want {
			t.Fatalf("JoinSets(%q, %q) = %q, %v, not %q, %v", two[0], two[1], got, ok, want, right)
		}
	}
}

func checkMeet(t *testing.T, a, b, want string, right bool) {
	t.Helper()
	for _, two := range [][2]string{{a, b}, {b, a}} {
		if got, ok := impl.MeetSets(two[0], two[1]); ok != right || got != want {
			t.Fatalf("MeetSets(%q, %q) = %q, %v, not %q, %v", two[0], two[1], got, ok, want, right)
		}
	}
}

// checkTwoSets holds for any two texts, sets or not.
func checkTwoSets(t *testing.T, a, b string) {
	t.Helper()
	joined, right := slowJoined(a, b)
	checkJoin(t, a, b, joined, right)
	met, right := slowMet(a, b)
	checkMeet(t, a, b, met, right)
}

func TestSetsOfBytesAlone(t *testing.T) {
	checkSetBytes(t, "a", "a")
	checkSetBytes(t, "7", "7")
	checkSetBytes(t, "ab", "ab")
	checkSetBytes(t, "xkq", "kqx")
	checkSetBytes(t, "a0", "0a")
	checkSetBytes(t, "9z8y", "89yz")
	for i := range len(setBytes) {
		checkSetBytes(t, setBytes[i:i+1], setBytes[i:i+1])
	}
}

func TestSetsOfRows(t *testing.T) {
	checkSetBytes(t, "a-c", "abc")
	checkSetBytes(t, "0-2", "012")
	checkSetBytes(t, "a-b", "ab")
	checkSetBytes(t, "x-z7-9", "789xyz")
	checkSetBytes(t, "0-9", "0123456789")
	checkSetBytes(t, "a-z", smallLetters)
	checkSetBytes(t, "a-z0-9", setBytes)
	checkSetBytes(t, "0-9a-z", setBytes)
	checkSetBytes(t, "b-dx", "bcdx")
	checkSetBytes(t, "x0b-d", "0bcdx")
	checkSetBytes(t, "a-cz5-6", "56abcz")
}

func TestSetsThatTellBytesTwice(t *testing.T) {
	checkSetBytes(t, "aa", "a")
	checkSetBytes(t, "aba", "ab")
	checkSetBytes(t, "a-cb", "abc")
	checkSetBytes(t, "ba-c", "abc")
	checkSetBytes(t, "a-cb-e", "abcde")
	checkSetBytes(t, "0-30-3", "0123")
	checkSetBytes(t, "aaaaaaaaaaaa", "a")
	checkSetBytes(t, "a-aa-aa-aa-a", "a")
}

func TestSetsThatDoNotAscend(t *testing.T) {
	checkSetBytes(t, "ba", "ab")
	checkSetBytes(t, "za-c", "abcz")
	checkSetBytes(t, "x-za-c", "abcxyz")
	checkSetBytes(t, "a0", "0a")
	checkSetBytes(t, "a-c0-2", "012abc")
	checkSetBytes(t, "9876543210", "0123456789")
}

// Every row from every byte to every byte: one whose last is its first, and those that are none.
func TestSetRowsFromEachToEach(t *testing.T) {
	for i := range len(setBytes) {
		for j := range len(setBytes) {
			s := setBytes[i:i+1] + "-" + setBytes[j:j+1]
			if j < i || (i < 10) != (j < 10) {
				refuseSetText(t, s)
				continue
			}
			checkSetBytes(t, s, setBytes[i:j+1])
		}
	}
}

func TestSetRefuses(t *testing.T) {
	for _, s := range wrongSets() {
		refuseSetText(t, s)
	}
}

func TestSetLengths(t *testing.T) {
	checkSetBytes(t, "acegikmoqsuw", "acegikmoqsuw")
	refuseSetText(t, "acegikmoqsuwy")
	checkSetBytes(t, "a-ce-gi-km-o", "abcefgijkmno")
	refuseSetText(t, "a-ce-gi-km-oq")
	refuseSetText(t, "aa-ce-gi-km-o")
	checkSetBytes(t, "acegikmoqs-u", "acegikmoqstu")
	refuseSetText(t, "acegikmoqsu-w")
	for n := range 40 {
		s := strings.Repeat("a", n)
		if n >= 1 && n <= 12 {
			checkSetBytes(t, s, "a")
		} else {
			refuseSetText(t, s)
		}
	}
}

// Each byte there is, at each place of a set of bytes alone and of rows.
func TestSetBytesAtEachPlace(t *testing.T) {
	for _, plain := range []string{"m", "mp", "m-p", "m-pt", "3-5m-p", "35m-px", "acegikmoqsuw", "a-ce-gi-km-o"} {
		for at := range len(plain) {
			for b := range 256 {
				s := withByte(plain, at, byte(b))
				checkHas(t, s, slowSetBytes(s))
			}
		}
	}
}

func TestSetsOfManyTexts(t *testing.T) {
	textsOf("abcz09-", 5, func(s string) {
		want := slowSetBytes(s)
		if got := impl.SetOk(s); got != (want != "") {
			t.Fatalf("SetOk(%q) = %v", s, got)
		}
		if got := impl.SetBytes(s); got != want {
			t.Fatalf("SetBytes(%q) = %q, not %q", s, got, want)
		}
	})
	someSets(3000, func(s string) { checkHas(t, s, slowSetBytes(s)) })
}

func TestSetOf(t *testing.T) {
	checkSetOf(t, "a", "a")
	checkSetOf(t, "0", "0")
	checkSetOf(t, "ba", "ab")
	checkSetOf(t, "cab", "a-c")
	checkSetOf(t, "aa", "a")
	checkSetOf(t, "abcabc", "a-c")
	checkSetOf(t, "a0", "0a")
	checkSetOf(t, "zyx210", "0-2x-z")
	checkSetOf(t, "abcxefg", "a-ce-gx")
	checkSetOf(t, "abdefh", "abd-fh")
	checkSetOf(t, setBytes, "0-9a-z")
	checkSetOf(t, strings.Repeat(setBytes, 500), "0-9a-z")
	checkSetOf(t, strings.Repeat("a", 20001), "a")
}

func TestSetOfRows(t *testing.T) {
	checkSetOf(t, "ab", "ab")
	checkSetOf(t, "abc", "a-c")
	checkSetOf(t, "yz", "yz")
	checkSetOf(t, "xyz", "x-z")
	checkSetOf(t, "01", "01")
	checkSetOf(t, "89", "89")
	checkSetOf(t, "789", "7-9")
	checkSetOf(t, "0123456789", "0-9")
	checkSetOf(t, smallLetters, "a-z")
	checkSetOf(t, "9a", "9a")
	checkSetOf(t, "89a", "89a")
	checkSetOf(t, "9ab", "9ab")
	checkSetOf(t, "89ab", "89ab")
	checkSetOf(t, "789a", "7-9a")
	checkSetOf(t, "9abc", "9a-c")
	checkSetOf(t, "789abc", "7-9a-c")
	for i := range len(setBytes) {
		for j := i; j < len(setBytes); j++ {
			row := setBytes[i : j+1]
			want, _ := slowSetOf(row)
			checkSetOf(t, row, want)
		}
	}
}

func TestSetOfLengths(t *testing.T) {
	checkSetOf(t, "acegikmoqsuw", "acegikmoqsuw")
	refuseSetOf(t, "acegikmoqsuwy")
	checkSetOf(t, "abcefgijkmno", "a-ce-gi-km-o")
	refuseSetOf(t, "abcefgijkmnoq")
	checkSetOf(t, "abdeghjkmnpq", "abdeghjkmnpq")
	refuseSetOf(t, "abdeghjkmnpqs")
	refuseSetOf(t, "abdeghjkmnpqr")
	checkSetOf(t, "abdeghjkmnopr", "abdeghjkm-pr")
}

func TestSetOfRefuses(t *testing.T) {
	refuseSetOf(t, "")
	for _, some := range []string{"-", "a-c", "a-", "-a", "abC", "A", " ", "a b", "a{", "`a", "/0", "9:", "z\x00", "\x80", "a\xe1", "é"} {
		refuseSetOf(t, some)
	}
	for _, plain := range []string{"m", "mn", "m4p", setBytes} {
		for at := range len(plain) {
			for b := range 256 {
				some := withByte(plain, at, byte(b))
				want, ok := slowSetOf(some)
				if !ok {
					refuseSetOf(t, some)
				} else {
					checkSetOf(t, some, want)
				}
			}
		}
	}
}

// Every choice of bytes near the ends of the figures and of the letters, told forwards, backwards and twice.
func TestSetOfManyBytes(t *testing.T) {
	pool := "0126789abcdxyz"
	for chosen := 1; chosen < 1<<len(pool); chosen++ {
		some := []byte{}
		for i := range len(pool) {
			if chosen>>i%2 == 1 {
				some = append(some, pool[i])
			}
		}
		want, ok := slowSetOf(string(some))
		if !ok {
			refuseSetOf(t, string(some))
			continue
		}
		checkSetOf(t, string(some), want)
		slices.Reverse(some)
		checkSetOf(t, string(some), want)
		checkSetOf(t, string(some)+want[:1]+string(some), want)
	}
}

func TestSetsComeBackFromTheirBytes(t *testing.T) {
	comesBack := func(s string) {
		all := impl.SetBytes(s)
		set, ok := impl.SetOf(all)
		if !ok || len(set) > len(s) {
			t.Fatalf("SetOf(SetBytes(%q)) = %q, %v", s, set, ok)
		}
		checkSetBytes(t, set, all)
		checkSetOf(t, impl.SetBytes(set), set)
	}
	for _, s := range rightSets() {
		if !impl.SetOk(s) {
			t.Fatalf("SetOk(%q) = false", s)
		}
		comesBack(s)
	}
	someSets(2000, func(s string) {
		if slowSetBytes(s) != "" {
			comesBack(s)
		}
	})
}

func TestJoinSets(t *testing.T) {
	checkJoin(t, "ab", "c-e", "a-e", true)
	checkJoin(t, "a", "b", "ab", true)
	checkJoin(t, "a", "a", "a", true)
	checkJoin(t, "a", "c", "ac", true)
	checkJoin(t, "ac", "b", "a-c", true)
	checkJoin(t, "a-c", "0-2", "0-2a-c", true)
	checkJoin(t, "9", "a", "9a", true)
	checkJoin(t, "89", "ab", "89ab", true)
	checkJoin(t, "a-z", "0-9", "0-9a-z", true)
	checkJoin(t, "cba", "b-b", "a-c", true)
	checkJoin(t, "a-b", "a-a", "ab", true)
}

func TestMeetSets(t *testing.T) {
	checkMeet(t, "a-e", "dez", "de", true)
	checkMeet(t, "a", "a", "a", true)
	checkMeet(t, "a-e", "c-g", "c-e", true)
	checkMeet(t, "a-e", "e-g", "e", true)
	checkMeet(t, "0-9a-z", "z9a0", "09az", true)
	checkMeet(t, "8-9a-c", "9a-b", "9ab", true)
	checkMeet(t, "cba", "b-d", "bc", true)
	checkMeet(t, "a-z", "a-z", "a-z", true)
}

func TestSetsThatMeetInNothing(t *testing.T) {
	checkMeet(t, "a", "b", "", false)
	checkMeet(t, "a-c", "d-f", "", false)
	checkMeet(t, "0-9", "a-z", "", false)
	checkMeet(t, "9", "a", "", false)
	checkMeet(t, "acegik", "bdfhjl", "", false)
}

func TestJoinedAndMetSetsOfJust12(t *testing.T) {
	checkJoin(t, "acegik", "moqsuw", "acegikmoqsuw", true)
	checkJoin(t, "acegik", "moqsuwy", "", false)
	checkJoin(t, "acegikmoqsuw", "a", "acegikmoqsuw", true)
	checkJoin(t, "acegikmoqsuw", "y", "", false)
	checkJoin(t, "acegikmoqsuw", "b", "", false)
	checkJoin(t, "acegikmoqsuw", "bdfhjlnprtv", "a-w", true)
	checkJoin(t, "a-ce-g", "i-km-o", "a-ce-gi-km-o", true)
	checkJoin(t, "a-ce-g", "i-km-oq", "", false)
	checkMeet(t, "acegikmoqsuw", "a-z", "acegikmoqsuw", true)
	checkMeet(t, "a-eg-km-qs-z", "a-bd-hj-np-r", "abdeghjkmnpq", true)
	checkMeet(t, "a-eg-km-qs-z", "a-bd-hj-np-s", "", false)
	checkMeet(t, "a-eg-km-qs-z", "a-bd-hj-np-z", "", false)
}

func TestJoinAndMeetRefuseWhatIsNoSet(t *testing.T) {
	for _, wrong := range wrongSets() {
		for _, right := range rightSets() {
			checkJoin(t, wrong, right, "", false)
			checkMeet(t, wrong, right, "", false)
		}
		for _, other := range wrongSets() {
			checkJoin(t, wrong, other, "", false)
			checkMeet(t, wrong, other, "", false)
		}
	}
}

func TestSetsAreJoinedAndMetByteByByte(t *testing.T) {
	t.Parallel()
	sets := rightSets()
	someSets(150, func(s string) { sets = append(sets, s) })
	for _, a := range sets {
		for _, b := range sets {
			checkTwoSets(t, a, b)
			joined, joins := impl.JoinSets(a, b)
			met, meets := impl.MeetSets(a, b)
			for c := range 256 {
				inA, inB := impl.InSet(a, byte(c)), impl.InSet(b, byte(c))
				if joins && impl.InSet(joined, byte(c)) != (inA || inB) {
					t.Fatalf("JoinSets(%q, %q) = %q, at %q", a, b, joined, byte(c))
				}
				if meets && impl.InSet(met, byte(c)) != (inA && inB) {
					t.Fatalf("MeetSets(%q, %q) = %q, at %q", a, b, met, byte(c))
				}
			}
		}
	}
}

func TestJoinAndMeetOfManyTexts(t *testing.T) {
	texts := []string{}
	textsOf("abz09-", 3, func(s string) { texts = append(texts, s) })
	for _, a := range texts {
		for _, b := range texts {
			joined, right := slowJoined(a, b)
			if got, ok := impl.JoinSets(a, b); ok != right || got != joined {
				t.Fatalf("JoinSets(%q, %q) = %q, %v, not %q, %v", a, b, got, ok, joined, right)
			}
			met, right := slowMet(a, b)
			if got, ok := impl.MeetSets(a, b); ok != right || got != met {
				t.Fatalf("MeetSets(%q, %q) = %q, %v, not %q, %v", a, b, got, ok, met, right)
			}
		}
	}
}

func TestSetsAnswerNewMemory(t *testing.T) {
	for _, plain := range append(rightSets(), wrongSets()...) {
		a, b := strings.Clone(plain), strings.Clone(plain)
		joined, _ := impl.JoinSets(a, b)
		met, _ := impl.MeetSets(a, b)
		set, _ := impl.SetOf(a)
		for _, answer := range []string{joined, met, set, impl.SetBytes(a)} {
			if shares(answer, a) || shares(answer, b) {
				t.Fatalf("%q: an answer shares memory with an argument", plain)
			}
		}
	}
}

func TestSetsAnswerTheSameAgain(t *testing.T) {
	for range 50 {
		checkJoin(t, "ab", "c-e", "a-e", true)
		checkJoin(t, "ab", "c-", "", false)
		checkMeet(t, "a-e", "dez", "de", true)
		checkMeet(t, "a-e", "z", "", false)
		checkSetOf(t, "cab", "a-c")
		refuseSetOf(t, "ca-")
		checkSetBytes(t, "0-2", "012")
		refuseSetText(t, "2-0")
	}
}
