package tests

import (
	"fmt"
	"slices"
	"strings"
	"testing"
	"unsafe"

	"loop.example/g00243/impl"
)

// isPiece tells whether the first rule, read from the one place, may end at the other.
type isPiece func(from, to int) bool

// slowEndings asks by the slow reading, from each place of the text.
func slowEndings(g impl.Grammar, text string) isPiece {
	pieces := map[[2]int]bool{}
	for from := range len(text) + 1 {
		if c, ok := slowRun(g, text, firstName(g), nil, from); ok {
			for _, end := range c.Goals[0].Ends {
				pieces[[2]int{from, end}] = true
			}
		}
	}
	return func(from, to int) bool { return pieces[[2]int{from, to}] }
}

// endings asks by the program's own EndsOf.
func endings(g impl.Grammar, text string) isPiece {
	return func(from, to int) bool {
		return slices.Contains(impl.EndsOf(g, text, firstName(g), nil, from), to)
	}
}

// slowLongest asks at every place of the text, the last one first.
func slowLongest(text string, isEnd isPiece, from int) int {
	for to := len(text); to >= 0; to-- {
		if isEnd(from, to) {
			return to
		}
	}
	return -1
}

// slowSpans asks of each two places whether a piece lies between them, the longer ones first, and takes those of which no byte is taken yet.
func slowSpans(text string, isEnd isPiece) []impl.Span {
	spans, taken := []impl.Span{}, make([]bool, len(text))
	for from := range len(text) {
		for to := len(text); to > from; to-- {
			if isEnd(from, to) && !slices.Contains(taken[from:to], true) {
				spans = append(spans, impl.Span{From: from, To: to})
				for at := from; at < to; at++ {
					taken[at] = true
				}
			}
		}
	}
	return spans
}

// slowReplaced holds each span against all behind it, and puts in what is by from behind.
func slowReplaced(text string, list []impl.Span, by string) (string, bool) {
	for i, span := range list {
		if span.From < 0 || span.To > len(text) || span.To < span.From {
			return "", false
		}
		for _, behind := range list[i+1:] {
			if behind.From < span.To || behind == span {
				return "", false
			}
		}
	}
	for _, span := range slices.Backward(list) {
		text = text[:span.From] + by + text[span.To:]
	}
	return text, true
}

// spanText tells spans as "1-3 4-5".
func spanText(spans []impl.Span) string {
	told := []string{}
	for _, span := range spans {
		told = append(told, fmt.Sprintf("%d-%d", span.From, span.To))
	}
	return strings.Join(told, " ")
}

// noPlaces are such for every text of this length.
func noPlaces(length int) []int {
	return []int{leastInt, leastInt + 1, -256, -2, -1, length + 1, length + 2, length + 256, 1 << 32, greatestInt - 1, greatestInt}
}

// checkSpans holds both functions against the slow ways, and what is found against the promise.
func checkSpans(t *testing.T, what string, g impl.Grammar, text string, isEnd isPiece) []impl.Span {
	t.Helper()
	for from := range len(text) + 1 {
		if got, want := impl.LongestAt(g, text, from), slowLongest(text, isEnd, from); got != want {
			t.Fatalf("%s: LongestAt(%q, %d) of\n%s\nis %d, not %d", what, text, from, plainPicture(g), got, want)
		}
	}
	for _, from := range noPlaces(len(text)) {
		if got := impl.LongestAt(g, text, from); got != -1 {
			t.Fatalf("%s: LongestAt(%q, %d) of\n%s\nis %d", what, text, from, plainPicture(g), got)
		}
	}
	spans := impl.Spans(g, text)
	if want := slowSpans(text, isEnd); !slices.Equal(spans, want) {
		t.Fatalf("%s: Spans(%q) of\n%s\nare %v, not %v", what, text, plainPicture(g), spans, want)
	}
	checkFound(t, what, g, text, spans, isEnd)
	checkPutBack(t, what, text, spans)
	return spans
}

// checkFound holds the promise by itself: spans take something, ascend, do not overlap and are as long as they may be, and nothing could be found between them.
func checkFound(t *testing.T, what string, g impl.Grammar, text string, spans []impl.Span, isEnd isPiece) {
	t.Helper()
	at := 0
	for _, span := range spans {
		if span.From < at || span.To <= span.From || span.To > len(text) {
			t.Fatalf("%s: of %q the span %v is none behind %d", what, text, span, at)
		}
		at = span.To
		if !isEnd(span.From, span.To) {
			t.Fatalf("%s: of %q the span %v is no piece", what, text, span)
		}
		for longer := span.To + 1; longer <= len(text); longer++ {
			if isEnd(span.From, longer) {
				t.Fatalf("%s: of %q the span %v may be longer", what, text, span)
			}
		}
	}
	at = 0
	for _, span := range append(slices.Clone(spans), impl.Span{From: len(text), To: len(text)}) {
		for from := at; from < span.From; from++ {
			for to := from + 1; to <= len(text); to++ {
				if isEnd(from, to) {
					t.Fatalf("%s: of %q a piece from %d to %d is not found: %v", what, text, from, to, spans)
				}
			}
		}
		at = span.To
	}
}

// checkPutBack puts in again what stood there, and "".
func checkPutBack(t *testing.T, what, text string, spans []impl.Span) {
	t.Helper()
	const mark = "\x01mark\xfe"
	marked, ok := impl.Replaced(text, spans, mark)
	if !ok || strings.Count(marked, mark) != len(spans) {
		t.Fatalf("%s: Replaced(%q, %v, %q) = %q, %v", what, text, spans, mark, marked, ok)
	}
	short := len(text)
	for _, span := range spans {
		piece := text[span.From:span.To]
		if again, ok := impl.Replaced(text, []impl.Span{span}, piece); !ok || again != text {
			t.Fatalf("%s: %q with the span %v put in again is %q, %v", what, text, span, again, ok)
		}
		marked = strings.Replace(marked, mark, piece, 1)
		short -= len(piece)
	}
	if marked != text {
		t.Fatalf("%s: %q with all spans put in again is %q", what, text, marked)
	}
	if less, ok := impl.Replaced(text, spans, ""); !ok || len(less) != short {
		t.Fatalf("%s: %q without the spans %v is %q, %v", what, text, spans, less, ok)
	}
}

// spansAre wants these spans, and all that the slow ways and the promise ask.
func spansAre(t *testing.T, what string, g impl.Grammar, text, want string) {
	t.Helper()
	checkGrammar(t, what, g)
	if got := spanText(impl.Spans(g, text)); got != want {
		t.Errorf("%s: Spans(%q) are %q, not %q", what, text, got, want)
	}
	checkSpans(t, what, g, text, slowEndings(g, text))
}

// finds reads a grammar with groups, and wants the spans of texts, told one behind the other.
func finds(t *testing.T, written string, textsAndSpans ...string) {
	t.Helper()
	for pair := range slices.Chunk(textsAndSpans, 2) {
		spansAre(t, written, flat(t, written), pair[0], pair[1])
	}
}

// longestAre wants what LongestAt answers from each place of the text on.
func longestAre(t *testing.T, written, text string, want ...int) {
	t.Helper()
	g, got := flat(t, written), []int{}
	for from := range len(text) + 1 {
		got = append(got, impl.LongestAt(g, text, from))
	}
	if !slices.Equal(got, want) {
		t.Errorf("%s: LongestAt of %q is %v, not %v", written, text, got, want)
	}
	checkSpans(t, written, g, text, slowEndings(g, text))
}

// nothingFound wants no end from any place, and no span.
func nothingFound(t *testing.T, what string, g impl.Grammar, texts ...string) {
	t.Helper()
	for _, text := range texts {
		for _, from := range append(noPlaces(len(text)), 0, 1, 2, len(text)/2, len(text)-1, len(text)) {
			if got := impl.LongestAt(g, text, from); got != -1 {
				t.Fatalf("%s: LongestAt(%v, %q, %d) = %d", what, g, text, from, got)
			}
		}
		if got := impl.Spans(g, text); len(got) > 0 {
			t.Fatalf("%s: Spans(%v, %q) = %v", what, g, text, got)
		}
	}
}

// wrongFinds wants nothing of a grammar that is not right, whatever the text.
func wrongFinds(t *testing.T, what string, g impl.Grammar) {
	t.Helper()
	refuseGrammar(t, what, g)
	nothingFound(t, what, g, "", "a", "aab", "1b2", "\x00a\xff", strings.Repeat("a", 12), strings.Repeat("a", 13))
}

// checkReplaced holds Replaced against the slow way.
func checkReplaced(t *testing.T, text string, list []impl.Span, by string) (string, bool) {
	t.Helper()
	got, ok := impl.Replaced(text, list, by)
	if want, wantOk := slowReplaced(text, list, by); ok != wantOk || got != want {
		t.Fatalf("Replaced(%q, %v, %q) = %q, %v, not %q, %v", text, list, by, got, ok, want, wantOk)
	}
	return got, ok
}

// spansIn reads "1-3 4-5".
func spansIn(told string) []impl.Span {
	list := []impl.Span{}
	for _, one := range strings.Fields(told) {
		span := impl.Span{}
		fmt.Sscanf(one, "%d-%d", &span.From, &span.To)
		list = append(list, span)
	}
	return list
}

func replacesAs(t *testing.T, text, list, by, want string) {
	t.Helper()
	if got, ok := checkReplaced(t, text, spansIn(list), by); !ok || got != want {
		t.Errorf("Replaced(%q, %s, %q) = %q, %v, not %q", text, list, by, got, ok, want)
	}
}

func replacesNot(t *testing.T, text string, list ...impl.Span) {
	t.Helper()
	for _, by := range []string{"", "#", "longer"} {
		if got, ok := checkReplaced(t, text, list, by); ok || got != "" {
			t.Errorf("Replaced(%q, %v, %q) = %q, %v", text, list, by, got, ok)
		}
	}
}

func TestSpansOfTextsByHand(t *testing.T) {
	finds(t, `S -> "a" ;`, "", "", "a", "0-1", "b", "", "ab", "0-1", "ba", "1-2", "aaa", "0-1 1-2 2-3", "baab", "1-2 2-3", "bbbabbb", "3-4")
	finds(t, `S -> "aa" ;`, "a", "", "aa", "0-2", "aaa", "0-2", "aaaaa", "0-2 2-4", "baabaab", "1-3 4-6", "abaa", "2-4")
	finds(t, `S -> "a" | "ab" | "abc" ;`, "abcabac", "0-3 3-5 5-6", "abcabcabcabc", "0-3 3-6 6-9 9-12")
	finds(t, `S -> "abc" | "ab" | "a" ;`, "abcabac", "0-3 3-5 5-6", "cbaabb", "2-3 3-5")
	finds(t, `S -> "ab" | "abc" | "a" ;`, "abcabac", "0-3 3-5 5-6", "cbaabb", "2-3 3-5")
	// The left one counts, even when another is longer, or is cut by it.
	finds(t, `S -> "ab" | "bcd" ;`, "abcd", "0-2", "bcdab", "0-3 3-5", "abcdbcd", "0-2 4-7")
	finds(t, `S -> "abc" | "cd" | "d" ;`, "abcd", "0-3 3-4", "abcdcd", "0-3 3-4 4-6")
	// The longest one counts, even when a shorter one would leave more to be found.
	finds(t, `S -> "aa" | "aaa" ;`, "aaaa", "0-3", "aaaaa", "0-3 3-5", "aaaaaa", "0-3 3-6")
	finds(t, `S -> "a" | "abb" | "ba" ;`, "abba", "0-3 3-4", "abab", "0-1 1-3", "baba", "0-2 2-4")
}

func TestSpansOfRowsByHand(t *testing.T) {
	finds(t, `S -> [0-9] S | [0-9] ;`, "a12b3", "1-3 4-5", "12", "0-2", "1", "0-1", "x", "", "1a", "0-1", "a1", "1-2", "1a2b3c", "0-1 2-3 4-5", "a999999999a", "1-10")
	finds(t, `S -> ( "a" | "b" )+ ;`, "xabbaxbx", "1-5 6-7", "ab", "0-2", "aaaaaaaaaaaa", "0-12")
	finds(t, `S -> S "a" | "b" ;`, "baaba", "0-3 3-5", "aab", "2-3", "bbb", "0-1 1-2 2-3", "aaa", "")
	finds(t, `S -> S S | "a" ;`, "aaaba", "0-3 4-5")
	finds(t, `S -> "a" S "b" | "ab" ;`, "aabbab", "0-4 4-6", "aabab", "1-3 3-5", "aaabb", "1-5", "abb", "0-2", "ba", "")
	finds(t, `S -> "(" S ")" S | ;`, "())(()", "0-2 4-6", ")(", "", "()()", "0-4", "((())", "1-5")
	finds(t, `S -> T U ; T -> "a" | "aa" ; U -> "b" | "bb" ;`, "aabbab", "0-4 4-6", "abaab", "0-2 2-5", "bbaaa", "", "aaabbb", "1-5")
	finds(t, `T -> "ab" S ; S -> "a" T | "1" ;`, "ab1aab1ab", "0-3 4-7", "abaab1", "0-6", "1", "")
}

// A place at which nothing alone may be taken is gone over.
func TestSpansThatWouldTakeNothing(t *testing.T) {
	finds(t, `S -> ;`, "", "", "a", "", "aaa", "")
	finds(t, `S -> "a" | ;`, "bab", "1-2", "", "", "bbb", "", "aa", "0-1 1-2")
	finds(t, `S -> | "a" "b" ;`, "abaab", "0-2 3-5")
	finds(t, `S -> ( "a" )* ;`, "baabab", "1-3 4-5", "bb", "", "aaaa", "0-4")
	finds(t, `S -> S ;`, "", "", "aa", "")
	finds(t, `S -> "a" S ;`, "aaa", "")
	finds(t, `S -> { 0 } "a" ;`, "aaa", "")
	finds(t, `S -> { 1 } ;`, "aaa", "")
}

func TestSpansWithNumbersByHand(t *testing.T) {
	spansAre(t, "a length", lengthGrammar(), "x2abc3ab1z", "1-4 8-10")
	spansAre(t, "a length", lengthGrammar(), "0a0", "0-1 2-3")
	spansAre(t, "a length", lengthGrammar(), "12ab", "1-4")
	spansAre(t, "a length", lengthGrammar(), "9abcdefgh", "")
	spansAre(t, "a length", lengthGrammar(), "9abcdefghi0", "0-10 10-11")
	spansAre(t, "operators", climbGrammar(), "x1+2y(3)+4", "1-4 5-10")
	spansAre(t, "operators", climbGrammar(), "1++2^3", "0-1 3-6")
	spansAre(t, "operators", climbGrammar(), "((1)", "1-4")
	spansAre(t, "operators", climbGrammar(), "12+3+", "0-1 1-4")
	finds(t, `S -> n:D x(n) ; D -> [0-9] ; x(p) -> { 0 < p } "x" x(p-1) | { p = 0 } ;`, "2xxx1xx0", "0-3 4-6 7-8", "3xx", "", "02xx", "0-1 1-4")
	finds(t, `S -> n:D m:D { n < m } ; D -> [0-9] ;`, "2112", "2-4", "12345", "0-2 2-4", "99", "")
}

// An Expr is of the place in the whole text, not of that within the piece.
func TestSpansByPlacesByHand(t *testing.T) {
	finds(t, `S -> { @ = 2 } "a" ;`, "aaaa", "2-3", "aa", "", "bbab", "2-3")
	finds(t, `S -> "a" { @ = 2 } ;`, "aaaa", "1-2")
	finds(t, `S -> { @ < 2 } "a" | { 2 < @ } "aa" ;`, "aaaaaa", "0-1 1-2 3-5")
	finds(t, `S -> T { @ = 3 } | "b" ; T -> "a" T | ;`, "aaaaab", "0-3 5-6", "baaa", "0-1 1-3")
	finds(t, `S -> T(@) ; T(n) -> { n = 1 } "ab" | { n = 0 } "a" | { n = 3 } "a" ;`, "aabab", "0-1 1-3 3-4", "abab", "0-1")
	finds(t, `S -> T(99+@) | "b" ; T(n) -> "a" ;`, "aaba", "0-1 2-3")
}

func TestSpansAreOfTheFirstRule(t *testing.T) {
	s, u := ruleOf("S", "", altOf(symText("a"))), ruleOf("T", "", altOf(symText("b")), altOf(symText("ba")))
	spansAre(t, "S first", grammarOf(s, u), "aaba", "0-1 1-2 3-4")
	spansAre(t, "T first", grammarOf(u, s), "aaba", "2-4")
	any := ruleOf("A", "", altOf(symSet("a-z0-9"), symCall("A")), altOf())
	spansAre(t, "what takes all is behind", grammarOf(s, any), "ba1", "1-2")
	spansAre(t, "what takes all is ahead", grammarOf(any, s), "ba1", "0-3")
	spansAre(t, "a first rule of another Name", grammarOf(ruleOf("Z9", "", altOf(symCall("S"), symCall("S"))), s), "aaa", "0-2")
}

func TestLongestByHand(t *testing.T) {
	longestAre(t, `S -> "a" S | ;`, "aab", 2, 2, 2, 3)
	longestAre(t, `S -> "a" S | "a" ;`, "aab", 2, 2, -1, -1)
	longestAre(t, `S -> ;`, "aab", 0, 1, 2, 3)
	longestAre(t, `S -> ;`, "", 0)
	longestAre(t, `S -> "a" ;`, "", -1)
	longestAre(t, `S -> "aab" | "a" | "aa" ;`, "aabaa", 3, 2, -1, 5, 5, -1)
	longestAre(t, `S -> { @ = 0 } | { @ = 3 } "b" ;`, "aaab", 0, -1, -1, 4, -1)
	longestAre(t, `S -> S S | "a" | ;`, "aaaa", 4, 4, 4, 4, 4)
	// The greatest end comes first of all, in the middle, and last.
	longestAre(t, `S -> "aaa" | T ; T -> U | "a" ; U -> "aa" ;`, "aaa", 3, 3, 3, -1)
	longestAre(t, `S -> "aa" | T ; T -> U | "aaa" ; U -> "a" ;`, "aaa", 3, 3, 3, -1)
	longestAre(t, `S -> "a" | T ; T -> U | "aa" ; U -> "aaa" ;`, "aaa", 3, 3, 3, -1)
}

func TestTextsOf12And13(t *testing.T) {
	g := flat(t, `S -> [0-9] S | [0-9] ;`)
	loose := flat(t, `S -> [0-9] S | ;`)
	for length := range 40 {
		text := strings.Repeat("7", length)
		if length > 12 {
			nothingFound(t, "too long", g, text)
			nothingFound(t, "too long", loose, text)
			continue
		}
		want := []impl.Span{{From: 0, To: length}}[:oneOf(length > 0)]
		spansAre(t, "all of the text", g, text, spanText(want))
		spansAre(t, "all of the text", loose, text, spanText(want))
		for from := range length {
			if got := impl.LongestAt(g, text, from); got != length {
				t.Errorf("LongestAt(%q, %d) = %d", text, from, got)
			}
		}
		if got := impl.LongestAt(g, text, length); got != -1 {
			t.Errorf("LongestAt(%q, %d) = %d", text, length, got)
		}
		if got := impl.LongestAt(loose, text, length); got != length {
			t.Errorf("LongestAt(%q, %d) = %d, of what may take nothing", text, length, got)
		}
	}
	spansAre(t, "at the very end", g, "aaaaaaaaaaa1", "11-12")
	spansAre(t, "at both ends", g, "1aaaaaaaaaa1", "0-1 11-12")
	spansAre(t, "one of each two", g, "1a1a1a1a1a1a", "0-1 2-3 4-5 6-7 8-9 10-11")
	spansAre(t, "twelve that meet", flat(t, `S -> [0-9] ;`), "123456789012", "0-1 1-2 2-3 3-4 4-5 5-6 6-7 7-8 8-9 9-10 10-11 11-12")
	nothingFound(t, "13 bytes, of which a few would be found", g, "1aaaaaaaaaa11", "aaaaaaaaaaa11", "\x001\x00\x00\x00\x00\x00\x00\x00\x00\x00\x00\x00")
}

// Where there are too many goals nothing is found, and at other places that is no matter.
func TestSpansWithTooManyGoals(t *testing.T) {
	t.Parallel()
	from := func(at, first int) impl.Grammar {
		return countGrammar(altOf(symIf(same(hereNode(), num(at))), symCall("C", number(0), number(first))))
	}
	ask := func(what string, g impl.Grammar, text, want string, longest ...int) {
		t.Helper()
		checkGrammar(t, what, g)
		got := []int{}
		for at := range len(text) + 1 {
			got = append(got, impl.LongestAt(g, text, at))
		}
		if spans := spanText(impl.Spans(g, text)); spans != want || !slices.Equal(got, longest) {
			t.Errorf("%s: Spans(%q) are %q, not %q, and LongestAt is %v, not %v", what, text, spans, want, got, longest)
		}
	}
	ask("300 goals at 0", from(0, 1), "yyy", "0-1 1-2 2-3", 1, 2, 3, -1)
	ask("301 goals at 0", from(0, 0), "yyy", "1-2 2-3", -1, 2, 3, -1)
	ask("300 goals at 1", from(1, 1), "yyy", "0-1 1-2 2-3", 1, 2, 3, -1)
	ask("301 goals at 1", from(1, 0), "yyy", "0-1 2-3", 1, -1, 3, -1)
	ask("301 goals at the end", from(3, 0), "yyy", "0-1 1-2 2-3", 1, 2, 3, -1)
	ask("301 goals, of what would be found", from(0, 0), "zzz", "", -1, -1, -1, -1)
	ask("300 goals, of what is found", from(0, 1), "zzz", "0-1", 1, -1, -1, -1)
	ask("301 goals everywhere", countGrammar(altOf(symCall("C", number(0), number(0)))), "yzyz", "", -1, -1, -1, -1, -1)
	ask("300 goals everywhere", countGrammar(altOf(symCall("C", number(0), number(1)))), "yzyz", "0-1 1-2 2-3 3-4", 1, 2, 3, 4, -1)
}

// No byte is in the way of what stands beside it, whatever byte it is.
func TestSpansBesideEachByte(t *testing.T) {
	g := flat(t, `S -> [a-m1] S | [a-m1] ;`)
	for b := range 256 {
		one := string([]byte{byte(b)})
		between, twice := "0-1 2-4", ""
		if strings.Contains("1abcdefghijklm", one) {
			between, twice = "0-4", "0-2"
		}
		spansAre(t, "each byte", g, "a"+one+"1b", between)
		spansAre(t, "each byte twice", g, one+one, twice)
	}
	spansAre(t, "0 and 255", g, "\x001\xff22a\x00", "1-2 5-6")
	spansAre(t, "a sign of two bytes", g, "é1é", "2-3")
}

func TestWrongGrammarsFindNothing(t *testing.T) {
	for what, g := range eachWrong() {
		wrongFinds(t, what, g)
	}
	grammars := wrongGrammars()
	for what, g := range oddGrammars() {
		grammars["odd: "+what] = g
	}
	for what, g := range grammars {
		if !slowGrammarOk(g) {
			wrongFinds(t, what, g)
		}
	}
	wrongFinds(t, "31 rules", manyRules(31))
	wrongFinds(t, "a first rule with Params", grammarOf(ruleOf("S", "n", altOf(symText("a"))), ruleOf("T", "", altOf(symText("a")))))
	spansAre(t, "a second rule with Params", grammarOf(ruleOf("T", "", altOf(symText("a"))), ruleOf("S", "n", altOf(symText("a")))), "aa", "0-1 1-2")
	spansAre(t, "30 rules", manyRules(30), "aba", "0-1 2-3")
}

// findGrammars take a, b and 1, in many ways.
func findGrammars(t *testing.T) map[string]impl.Grammar {
	t.Helper()
	grammars := map[string]impl.Grammar{"a length": lengthGrammar(), "operators": climbGrammar()}
	for _, written := range []string{
		`S -> "a" | "ab" | "bb1" ;`, `S -> "ab" | "ba" | "aba" ;`, `S -> "a" S "b" | "1" ;`, `S -> S "a" | "b" | ;`, `S -> S S | "ab" | "1" ;`,
		`S -> ( "a" | "b1" )+ ;`, `S -> ( "a" )* ( "b" )? ;`, `S -> { @ = 1 } "a" | { 2 < @ } "b" | "1" "a" ;`, `S -> n:T { n = 2 } "1" | T ; T -> "a" T | "b" ;`,
		`S -> T(@) ; T(n) -> { n < 2 } "a" T(n+1) | "b" ;`,
	} {
		grammars[written] = flat(t, written)
	}
	return grammars
}

func TestSpansOfAllShortTexts(t *testing.T) {
	t.Parallel()
	for what, g := range findGrammars(t) {
		for length := range 6 {
			textsOf("ab1", length, func(text string) {
				isEnd := endings(g, text)
				if length < 5 {
					isEnd = slowEndings(g, text)
				}
				checkSpans(t, what, g, text, isEnd)
			})
		}
	}
}

func TestRightGrammarsFind(t *testing.T) {
	t.Parallel()
	for what, g := range rightGrammars() {
		for _, text := range []string{"", "a", "aab", "3abc", "x1+2", "aaaa", "\x0012\xff", "abcdefghijkl"} {
			checkSpans(t, what, g, text, endings(g, text))
		}
	}
}

func TestSpansOfManySeeds(t *testing.T) {
	t.Parallel()
	const seeds = 700
	one, several, chosen, passed, met := 0, 0, 0, 0, 0
	for seed := range seeds {
		next := seeded(seed + 190000)
		g, text := smallGrammar(next), mixedOf("ab1", next, next(8))
		isEnd := slowEndings(g, text)
		spans := checkSpans(t, fmt.Sprint("seed ", seed), g, text, isEnd)
		one += oneOf(len(spans) == 1)
		several += oneOf(len(spans) > 1)
		for i, span := range spans {
			chosen += oneOf(slowLongest(text[:span.To-1], isEnd, span.From) > span.From)
			met += oneOf(i > 0 && spans[i-1].To == span.From)
		}
		for from := range len(text) {
			passed += oneOf(slowLongest(text, isEnd, from) == from)
		}
	}
	if one < seeds/10 || several < seeds/10 || chosen < seeds/10 || passed < seeds/10 || met < seeds/10 {
		t.Errorf("of %d: %d with one span, %d with several; %d spans that may be shorter, %d that meet one, %d places where nothing alone is taken", seeds, one, several, chosen, met, passed)
	}
}

// asksHere tells whether the grammar may take another text elsewhere.
func asksHere(g impl.Grammar) bool {
	for _, sym := range allSyms(g) {
		for _, arg := range sym.Args {
			for _, node := range arg.Nodes {
				if node.Op == impl.ExHere {
					return true
				}
			}
		}
	}
	return false
}

// Where no Expr asks for its place, a piece is a text that is accepted by itself, and all moves along with what stands ahead.
func TestPiecesAreAcceptedByThemselves(t *testing.T) {
	t.Parallel()
	found := 0
	for seed := range 1500 {
		next := seeded(seed + 290000)
		g, text := smallGrammar(next), mixedOf("ab1", next, next(9))
		if asksHere(g) {
			continue
		}
		what := fmt.Sprint("seed ", seed)
		spans := checkSpans(t, what, g, text, func(from, to int) bool { return from <= to && impl.Accepts(g, text[from:to]) })
		for _, ahead := range []string{"+", "\x00\xff", "^^^"} {
			moved := impl.Spans(g, ahead+text)
			for i := range moved {
				moved[i].From -= len(ahead)
				moved[i].To -= len(ahead)
			}
			if !slices.Equal(moved, spans) {
				t.Fatalf("%s: behind %q the spans of %q are %v, not %v", what, ahead, text, moved, spans)
			}
		}
		// What is behind a text is no matter, when nothing can take it.
		if behind := impl.Spans(g, text+"^^^"); !slices.Equal(behind, spans) {
			t.Fatalf("%s: with more behind the spans of %q are %v, not %v", what, text, behind, spans)
		}
		found += oneOf(len(spans) > 0)
	}
	if found < 150 {
		t.Errorf("%d times something is found", found)
	}
}

func TestSpoiltFindsOfManySeeds(t *testing.T) {
	t.Parallel()
	const seeds = 1500
	wrong := 0
	for seed := range seeds {
		next := seeded(seed + 390000)
		g, what := someGrammar(next), fmt.Sprint("seed ", seed)
		for range next(3) {
			spoil(next, &g)
		}
		if slowGrammarOk(g) {
			text := mixedOf("ab1", next, next(5))
			checkSpans(t, what, g, text, endings(g, text))
			continue
		}
		wrong++
		nothingFound(t, what, g, "", "a", "ab1ab1")
	}
	if wrong < seeds/4 || wrong > seeds*3/4 {
		t.Errorf("of %d %d are wrong", seeds, wrong)
	}
}

func TestReplacedByHand(t *testing.T) {
	replacesAs(t, "a12b3", "1-3 4-5", "#", "a#b#")
	replacesAs(t, "a12b3", "1-3 4-5", "", "ab")
	replacesAs(t, "a12b3", "1-3 4-5", "long ", "along blong ")
	replacesAs(t, "a12b3", "", "#", "a12b3")
	replacesAs(t, "a12b3", "0-5", "#", "#")
	replacesAs(t, "a12b3", "0-5", "", "")
	replacesAs(t, "a12b3", "0-1", "#", "#12b3")
	replacesAs(t, "a12b3", "4-5", "#", "a12b#")
	replacesAs(t, "a12b3", "2-3", "12b3", "a112b3b3")
	// They may meet.
	replacesAs(t, "abcdef", "0-2 2-4 4-6", "#", "###")
	replacesAs(t, "abcdef", "1-2 2-3 3-4", "-", "a---ef")
	replacesAs(t, "abcdef", "0-3 3-6", "", "")
	replacesAs(t, "abcdef", "0-3 4-6", "abcdef", "abcdefdabcdef")
	// Of no length: it is put in there.
	replacesAs(t, "abc", "0-0", "#", "#abc")
	replacesAs(t, "abc", "1-1", "#", "a#bc")
	replacesAs(t, "abc", "3-3", "#", "abc#")
	replacesAs(t, "abc", "0-0 1-1 2-2 3-3", "#", "#a#b#c#")
	replacesAs(t, "abc", "1-1", "", "abc")
	replacesAs(t, "abc", "0-1 1-1 1-2 2-3 3-3", "#", "#####")
	replacesAs(t, "abc", "1-1 1-2", "#", "a##c")
	replacesAs(t, "abc", "1-2 2-2", "#", "a##c")
	replacesAs(t, "", "", "#", "")
	replacesAs(t, "", "0-0", "#", "#")
	replacesAs(t, "", "0-0", "", "")
	replacesAs(t, "x", "0-1", "x", "x")
	// Each byte is kept as it is, and what is put in is not looked at again.
	replacesAs(t, "\x00a\xff", "1-2", "\xff\x00", "\x00\xff\x00\xff")
	replacesAs(t, "éa", "1-2", "", "\xc3a")
	replacesAs(t, "aaa", "0-1 1-2 2-3", "aaa", "aaaaaaaaa")
}

func TestSpansThatReplacedRefuses(t *testing.T) {
	span := func(from, to int) impl.Span { return impl.Span{From: from, To: to} }
	for _, one := range []impl.Span{
		span(-1, 0), span(-1, 1), span(-1, -1), span(-2, -1), span(0, 4), span(3, 4), span(4, 4), span(4, 5), span(1, 0), span(3, 0), span(3, 2), span(0, -1), span(4, 3), span(5, 2),
		span(leastInt, 0), span(leastInt, leastInt), span(0, leastInt), span(greatestInt, 0), span(0, greatestInt), span(greatestInt, greatestInt), span(leastInt, greatestInt), span(greatestInt, leastInt),
		span(1, greatestInt), span(leastInt, 3), span(3, leastInt), span(1<<32, 1<<32), span(256, 257), span(-256, 3),
	} {
		replacesNot(t, "abc", one)
		// Ahead of right ones, between them, and behind.
		replacesNot(t, "abc", one, span(1, 2))
		replacesNot(t, "abc", span(0, 1), one)
		replacesNot(t, "abc", span(0, 1), one, span(2, 3))
		replacesNot(t, "abc", one, one)
	}
	replacesNot(t, "abc", span(0, 2), span(1, 3))
	replacesNot(t, "abc", span(0, 3), span(2, 3))
	replacesNot(t, "abc", span(0, 3), span(0, 3))
	replacesNot(t, "abc", span(1, 2), span(1, 2))
	replacesNot(t, "abc", span(0, 3), span(1, 2))
	replacesNot(t, "abc", span(0, 3), span(1, 1))
	replacesNot(t, "abc", span(1, 2), span(0, 3))
	replacesNot(t, "abc", span(1, 2), span(0, 1))
	replacesNot(t, "abc", span(2, 3), span(0, 1))
	replacesNot(t, "abc", span(1, 2), span(1, 1))
	replacesNot(t, "abc", span(2, 2), span(1, 2))
	replacesNot(t, "abc", span(2, 2), span(1, 1))
	replacesNot(t, "abc", span(0, 1), span(2, 3), span(1, 2))
	replacesNot(t, "abc", span(0, 2), span(2, 3), span(1, 2))
	replacesNot(t, "abc", span(0, 1), span(0, 1), span(2, 3))
	// What ascends has no two alike, though these meet.
	replacesNot(t, "abc", span(1, 1), span(1, 1))
	replacesNot(t, "abc", span(3, 3), span(3, 3))
	replacesNot(t, "abc", span(0, 0), span(0, 0), span(1, 2))
	replacesNot(t, "abc", span(0, 1), span(1, 1), span(1, 1))
	replacesNot(t, "", span(0, 0), span(0, 0))
	replacesNot(t, "", span(0, 1))
	replacesNot(t, "", span(1, 1))
	replacesNot(t, "", span(-1, 0))
}

// Each list of up to three spans of texts of up to three bytes, with a place too much at either end.
func TestEachListOfSpans(t *testing.T) {
	t.Parallel()
	for length := range 4 {
		text, spans, right := "abc"[:length], []impl.Span{}, 0
		for from := -1; from <= length+1; from++ {
			for to := -1; to <= length+1; to++ {
				spans = append(spans, impl.Span{From: from, To: to})
			}
		}
		try := func(list ...impl.Span) {
			for _, by := range []string{"", "#", "ab"} {
				_, ok := checkReplaced(t, text, list, by)
				right += oneOf(ok)
			}
		}
		try()
		for _, first := range spans {
			try(first)
			for _, second := range spans {
				try(first, second)
				for _, third := range spans {
					try(first, second, third)
				}
			}
		}
		// As many as there are rows of 2, 4 and 6 places that never go down, less those in which a span is there twice, and the empty list.
		if want := []int{2, 8, 30, 90}[length] * 3; right != want {
			t.Errorf("of %d bytes %d lists are right, not %d", length, right, want)
		}
	}
}

func TestReplacedOfManySeeds(t *testing.T) {
	t.Parallel()
	const seeds = 20000
	right, wrong := 0, 0
	for seed := range seeds {
		next := seeded(seed + 490000)
		text, list, at := mixedOf(allBytes(), next, next(30)), []impl.Span{}, 0
		for range next(6) {
			span := impl.Span{From: at + next(5) - oneOf(next(12) == 0)}
			span.To = span.From + next(4) - oneOf(next(12) == 0)
			at, list = span.To, append(list, span)
		}
		_, ok := checkReplaced(t, text, list, mixedOf(allBytes(), next, next(4)))
		right, wrong = right+oneOf(ok && len(list) > 1), wrong+oneOf(!ok)
	}
	if right < seeds/10 || wrong < seeds/10 {
		t.Errorf("of %d lists %d of several spans are right, and %d wrong", seeds, right, wrong)
	}
}

// Replaced asks nothing of how long a text is.
func TestReplacedInLongTexts(t *testing.T) {
	for _, length := range []int{12, 13, 255, 256, 257, 600, 601, 1500, 1501, 100000} {
		text := strings.Repeat("ab1", length)[:length]
		replacesAs(t, text, fmt.Sprintf("%d-%d", length-1, length), "#", text[:length-1]+"#")
		replacesAs(t, text, fmt.Sprintf("%d-%d", length, length), text, text+text)
		replacesNot(t, text, impl.Span{From: 0, To: length + 1})
		replacesNot(t, text, impl.Span{From: 0, To: 1}, impl.Span{From: length, To: length + 1})
		each := []impl.Span{}
		for at := range length {
			each = append(each, impl.Span{From: at, To: at + 1})
		}
		if got, ok := impl.Replaced(text, each, "xy"); !ok || got != strings.Repeat("xy", length) {
			t.Errorf("each of %d bytes put in twice is %d bytes, %v", length, len(got), ok)
		}
		each[length-1].From--
		if got, ok := impl.Replaced(text, each, "xy"); ok || got != "" {
			t.Errorf("of %d bytes the last two spans overlap: %d bytes, %v", length, len(got), ok)
		}
	}
}

// ownText is a text in memory of its own, that may be written over.
func ownText(text string) ([]byte, string) {
	memory := []byte(text)
	return memory, unsafe.String(unsafe.SliceData(memory), len(memory))
}

func TestReplacedSharesNoMemory(t *testing.T) {
	for _, list := range []string{"", "0-0", "4-4", "0-4", "0-2", "2-4", "1-1", "0-2 2-4", "0-1 1-1 2-4", "1-0", "0-5"} {
		for _, by := range []string{"", "b", "long by"} {
			textMemory, text := ownText("text")
			byMemory, ownBy := ownText(by)
			spans := roomyList(spansIn(list), impl.Span{From: 0, To: 99})
			before := fmt.Sprint(text, spans[:cap(spans)], ownBy)
			got, ok := impl.Replaced(text, spans, ownBy)
			if after := fmt.Sprint(text, spans[:cap(spans)], ownBy); after != before {
				t.Fatalf("an argument is changed: %s, was %s", after, before)
			}
			checkApart(t, list, []stretch{textStretch(got)}, []stretch{textStretch(text), textStretch(ownBy), listStretch(spans)})
			clear(textMemory)
			clear(byMemory)
			if want, wantOk := slowReplaced("text", spansIn(list), by); got != want || ok != wantOk {
				t.Fatalf("%s, %q: what is answered becomes %q, %v, not %q, %v", list, by, got, ok, want, wantOk)
			}
		}
	}
}

func TestSpansShareNoMemory(t *testing.T) {
	grammars := rightGrammars()
	for what, g := range eachWrong() {
		grammars["wrong: "+what] = g
	}
	for what, g := range oddGrammars() {
		grammars["odd: "+what] = g
	}
	for seed := range 150 {
		grammars[fmt.Sprint("seed ", seed)] = smallGrammar(seeded(seed))
	}
	for what, plain := range grammars {
		g := roomyGrammar(plain)
		memory, text := ownText("1aab1")
		before := grammarPicture(g) + text
		lists, texts := grammarStretches(g)
		spans, again := impl.Spans(g, text), impl.Spans(g, text)
		longest := impl.LongestAt(g, text, 1)
		checkApart(t, what, []stretch{listStretch(spans)}, append(append(lists, listStretch(again), textStretch(text)), texts...))
		if after := grammarPicture(g) + text; after != before {
			t.Fatalf("%s: an argument is changed:\n%s\nwas\n%s", what, after, before)
		}
		clear(memory)
		if want := impl.Spans(plain, "1aab1"); !slices.Equal(spans, want) || longest != impl.LongestAt(plain, "1aab1", 1) {
			t.Fatalf("%s: with spare room behind its lists Spans are %v, not %v", what, spans, want)
		}
	}
}

func TestRoomBehindSpansIsNotLookedAt(t *testing.T) {
	rules := []impl.Rule{ruleOf("S", "", altOf(symText("a")), altOf(symText("ab"))), ruleOf("T", "", altOf(symText("b")))}
	g := impl.Grammar{Rules: rules[:1]}
	g.Rules[0].Alts = g.Rules[0].Alts[:1]
	spansAre(t, "behind the rules and the Alts", g, "abb", "0-1")
	g.Rules[0].Alts[0].Syms = []impl.Sym{symText("b"), symText("b")}[:1]
	spansAre(t, "behind the Syms", g, "abb", "1-2 2-3")
	g.Rules[0].Alts[0].Syms[0] = symCall("T")
	wrongFinds(t, "a call of a rule behind the list", g)
	wrongFinds(t, "no rule in the list", impl.Grammar{Rules: rules[:0]})
}

func TestSpansAnswerTheSameAgain(t *testing.T) {
	digits := flat(t, `S -> [0-9] S | [0-9] ;`)
	for range 50 {
		spansAre(t, "again", digits, "a12b3", "1-3 4-5")
		spansAre(t, "another", lengthGrammar(), "x2abc", "1-4")
		wrongFinds(t, "none", impl.Grammar{})
		nothingFound(t, "too long", digits, "1234567890123")
		replacesAs(t, "a12b3", "1-3 4-5", "#", "a#b#")
		replacesNot(t, "a12b3", impl.Span{From: 1, To: 3}, impl.Span{From: 2, To: 5})
		replacesAs(t, "", "", "", "")
		// What was answered may be written over.
		spans := impl.Spans(digits, "a12b3")
		clear(spans[:cap(spans)])
	}
}

// What is far too great is answered, and soon.
func TestHugeSpans(t *testing.T) {
	t.Parallel()
	const many = 1000000
	digits := flat(t, `S -> [0-9] S | ;`)
	long := strings.Repeat("1", 50*many)
	nothingFound(t, "a long text", digits, long, "a"+long)
	for what, g := range map[string]impl.Grammar{
		"many rules":   manyRules(3000),
		"many Alts":    grammarOf(ruleOf("S", "", slices.Repeat([]impl.Alt{altOf()}, many)...)),
		"many Syms":    grammarOf(ruleOf("S", "", altOf(slices.Repeat([]impl.Sym{symText("a")}, many)...))),
		"a long Name":  grammarOf(ruleOf(strings.Repeat("S", many), "", altOf())),
		"a long text":  grammarOf(ruleOf("S", "", altOf(symText(strings.Repeat("a", many))))),
		"many Params":  grammarOf(ruleOf("S", "", altOf()), impl.Rule{Name: "T", Params: slices.Repeat([]string{"a"}, many), Alts: []impl.Alt{altOf()}}),
		"a great Expr": grammarOf(ruleOf("S", "", altOf(symIf(impl.Expr{Nodes: slices.Repeat([]impl.ExNode{num(1)}, many)})))),
	} {
		wrongFinds(t, what, g)
		nothingFound(t, what, g, long)
	}
	spans := slices.Repeat([]impl.Span{{From: 1, To: 2}}, many)
	replacesNot(t, long, spans...)
	for i := range spans {
		spans[i] = impl.Span{From: 2 * i, To: 2*i + 1}
	}
	got, ok := impl.Replaced(long, spans, "22")
	if want := strings.Repeat("221", many) + long[2*many:]; !ok || got != want {
		t.Errorf("many spans: %d bytes, %v", len(got), ok)
	}
	spans[many-1].To = len(long) + 1
	if got, ok := impl.Replaced(long, spans, long); ok || got != "" {
		t.Errorf("many spans, the last one past the end: %d bytes, %v", len(got), ok)
	}
	// As many goals as there may be, and very many ways, from each place on.
	eight := altOf(slices.Repeat([]impl.Sym{symCall("R", plus("n", 1))}, 8)...)
	heavy := grammarOf(
		ruleOf("S", "", altOf(symCall("R", number(78)))),
		ruleOf("R", "n", eight, eight, eight, eight, eight, eight, altOf(symText("a")), altOf()))
	if got := spanText(impl.Spans(heavy, strings.Repeat("a", 12))); got != "0-12" {
		t.Errorf("very many ways: %q", got)
	}
	if got := spanText(impl.Spans(heavy, "aaaaabaaaaaa")); got != "0-5 6-12" {
		t.Errorf("very many ways, with a b between: %q", got)
	}
	if got := spanText(impl.Spans(heavy, strings.Repeat("b", 12))); got != "" {
		t.Errorf("very many ways that take nothing: %q", got)
	}
}
