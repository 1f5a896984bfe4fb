package tests

import (
	"fmt"
	"regexp"
	"slices"
	"strings"
	"testing"
	"unsafe"

	"loop.example/g00243/impl"
)

// slowLetters are the first three letters that are unlike.
func slowLetters(letters string) string {
	once := ""
	for _, b := range []byte(letters) {
		if strings.IndexByte(once, b) < 0 && len(once) < 3 {
			once += string([]byte{b})
		}
	}
	return once
}

// slowWords asks Accepts of every text, and puts in order afterwards what it takes.
func slowWords(g impl.Grammar, letters string, most int) []string {
	words, once := []string{}, slowLetters(letters)
	if most < 0 {
		return words
	}
	textsOf(once, min(most, 4), func(text string) {
		if impl.Accepts(g, text) {
			words = append(words, text)
		}
	})
	slices.SortFunc(words, func(a, b string) int { return slowOrder(once, a, b) })
	return words
}

// slowOrder is below 0 when the first of two texts comes first.
func slowOrder(letters, a, b string) int {
	if len(a) != len(b) {
		return len(a) - len(b)
	}
	for i := range len(a) {
		if a[i] != b[i] {
			return strings.IndexByte(letters, a[i]) - strings.IndexByte(letters, b[i])
		}
	}
	return 0
}

// checkWords holds Words against the slow ones, and against what is said of each word and of two that stand side by side.
func checkWords(t *testing.T, what string, g impl.Grammar, letters string, most int) []string {
	t.Helper()
	got, once := impl.Words(g, letters, most), slowLetters(letters)
	if want := slowWords(g, letters, most); !slices.Equal(got, want) {
		t.Fatalf("%s: Words(%v, %q, %d) = %q, not %q", what, g, letters, most, got, want)
	}
	for i, word := range got {
		if len(word) > most || len(word) > 4 || strings.Trim(word, once) != "" || !impl.Accepts(g, word) {
			t.Fatalf("%s: Words(%v, %q, %d) has %q", what, g, letters, most, word)
		}
		if i > 0 && slowOrder(once, got[i-1], word) >= 0 {
			t.Fatalf("%s: Words(%v, %q, %d) has %q behind %q", what, g, letters, most, word, got[i-1])
		}
	}
	return got
}

// wordsAre wants just these words, of which "-" is the one without letters.
func wordsAre(t *testing.T, what string, g impl.Grammar, letters string, most int, want string) {
	t.Helper()
	told := []string{}
	for _, word := range checkWords(t, what, g, letters, most) {
		if word == "" {
			word = "-"
		}
		told = append(told, word)
	}
	if got := strings.Join(told, " "); got != want {
		t.Errorf("%s: the words of %q, of at most %d, are %s\nnot %s", what, letters, most, got, want)
	}
}

// noWords wants none, however many letters and bytes there are.
func noWords(t *testing.T, what string, g impl.Grammar) {
	t.Helper()
	for _, letters := range []string{"", "a", "ba", "ab1", "aabbccdd", "S", "\x00\xff"} {
		for _, most := range []int{leastInt, -1, 0, 1, 2, 4, 5, greatestInt} {
			if words := impl.Words(g, letters, most); len(words) > 0 {
				t.Fatalf("%s: Words(%v, %q, %d) = %q", what, g, letters, most, words)
			}
		}
	}
}

// slowCalls gathers the Names in a map.
func slowCalls(g impl.Grammar, rule int) []string {
	names := map[string]bool{}
	for i, other := range g.Rules {
		for _, alt := range other.Alts {
			for _, sym := range alt.Syms {
				if i == rule && sym.Kind == impl.SyCall {
					names[sym.Text] = true
				}
			}
		}
	}
	told := []string{}
	for name := range names {
		told = append(told, name)
	}
	slices.Sort(told)
	return told
}

func checkCalls(t *testing.T, what string, g impl.Grammar, rule int) []string {
	t.Helper()
	got := impl.CallsOf(g, rule)
	if want := slowCalls(g, rule); !slices.Equal(got, want) {
		t.Fatalf("%s: CallsOf(%v, %d) = %q, not %q", what, g, rule, got, want)
	}
	return got
}

func callsAre(t *testing.T, what string, g impl.Grammar, rule int, want ...string) {
	t.Helper()
	if got := checkCalls(t, what, g, rule); !slices.Equal(got, want) {
		t.Errorf("%s: CallsOf(%v, %d) = %q, not %q", what, g, rule, got, want)
	}
}

// slowIsMet tells of each rule whether it is come to: it joins ways of calls by the rule between, until all are joined.
func slowIsMet(g impl.Grammar) []bool {
	ways := make([][]bool, len(g.Rules))
	for i := range g.Rules {
		ways[i] = make([]bool, len(g.Rules))
		for j, other := range g.Rules {
			ways[i][j] = i == j || slices.Contains(slowCalls(g, i), other.Name)
		}
	}
	for between := range g.Rules {
		for i := range g.Rules {
			for j := range g.Rules {
				ways[i][j] = ways[i][j] || ways[i][between] && ways[between][j]
			}
		}
	}
	return ways[0]
}

func slowTrimmed(g impl.Grammar) impl.Grammar {
	if !slowGrammarOk(g) {
		return g
	}
	trimmed := impl.Grammar{}
	for i, met := range slowIsMet(g) {
		if met {
			trimmed.Rules = append(trimmed.Rules, g.Rules[i])
		}
	}
	return trimmed
}

// sameMeaning wants two grammars to have the same words, and over each of them as many trees, whose first is told as it is, or once it is retold.
func sameMeaning(t *testing.T, what string, g, other impl.Grammar, letters string, most int, retold func(told string) string) int {
	t.Helper()
	words, again := impl.Words(g, letters, most), impl.Words(other, letters, most)
	if !slices.Equal(words, again) {
		t.Fatalf("%s: Words of %v over %q are %q,\nand of %v %q", what, g, letters, words, other, again)
	}
	for _, word := range words {
		first, ok := impl.FirstTree(g, word, firstName(g), nil, 0, len(word))
		otherFirst, otherOk := impl.FirstTree(other, word, firstName(other), nil, 0, len(word))
		if told, otherTold := retold(impl.TreeText(g, first)), impl.TreeText(other, otherFirst); ok != otherOk || told != otherTold {
			t.Fatalf("%s: over %q\n%s\nand\n%s", what, word, told, otherTold)
		}
		count := impl.CountTrees(g, word, firstName(g), nil, 0, len(word), 4)
		if otherCount := impl.CountTrees(other, word, firstName(other), nil, 0, len(word), 4); count != otherCount {
			t.Fatalf("%s: over %q %d trees, and %d", what, word, count, otherCount)
		}
	}
	return len(words)
}

func asTold(told string) string { return told }

// checkTrimmed holds Trimmed against the slow one, and a right grammar's against all that it has to keep.
func checkTrimmed(t *testing.T, what string, g impl.Grammar) impl.Grammar {
	t.Helper()
	got := impl.Trimmed(g)
	if picture, want := plainPicture(got), plainPicture(slowTrimmed(g)); picture != want {
		t.Fatalf("%s: Trimmed is\n%s\nnot\n%s", what, picture, want)
	}
	if impl.GrammarOk(got) != slowGrammarOk(g) {
		t.Fatalf("%s: right before, or after, Trimmed alone: %v", what, g)
	}
	if again := impl.Trimmed(got); plainPicture(again) != plainPicture(got) {
		t.Fatalf("%s: Trimmed again is\n%s\nwas\n%s", what, plainPicture(again), plainPicture(got))
	}
	return got
}

// trimsTo wants the rules of these Names to be left, in this order.
func trimsTo(t *testing.T, what string, g impl.Grammar, want string) {
	t.Helper()
	checkGrammar(t, what, g)
	got := checkTrimmed(t, what, g)
	if names := strings.Join(ruleNames(got), " "); names != want {
		t.Errorf("%s: Trimmed has %s, not %s", what, names, want)
	}
	sameMeaning(t, what, g, got, "ab1", 3, asTold)
}

func ruleNames(g impl.Grammar) []string {
	names := []string{}
	for _, rule := range g.Rules {
		names = append(names, rule.Name)
	}
	return names
}

// mayBeRenamed goes by what the chapter names, in other words.
func mayBeRenamed(g impl.Grammar, from, to string) bool {
	names := ruleNames(g)
	return slowGrammarOk(g) && slices.Contains(names, from) && wholeRuleName.MatchString(to) && !slices.Contains(names, to)
}

func slowRenamed(g impl.Grammar, from, to string) impl.Grammar {
	turn := func(name string) string {
		if name == from {
			return to
		}
		return name
	}
	renamed := impl.Grammar{}
	for _, rule := range g.Rules {
		other := impl.Rule{Name: turn(rule.Name), Params: rule.Params}
		for _, alt := range rule.Alts {
			syms := []impl.Sym{}
			for _, sym := range alt.Syms {
				if sym.Kind == impl.SyCall {
					sym.Text = turn(sym.Text)
				}
				syms = append(syms, sym)
			}
			other.Alts = append(other.Alts, impl.Alt{Syms: syms})
		}
		renamed.Rules = append(renamed.Rules, other)
	}
	return renamed
}

// checkRenamed holds Renamed against the slow one, and wants what is Renamed back to be as it was.
func checkRenamed(t *testing.T, what string, g impl.Grammar, from, to string) (impl.Grammar, bool) {
	t.Helper()
	got, ok := impl.Renamed(g, from, to)
	want, may := g, mayBeRenamed(g, from, to)
	if may {
		want = slowRenamed(g, from, to)
	}
	if ok != may || plainPicture(got) != plainPicture(want) {
		t.Fatalf("%s: Renamed from %q to %q: %v\n%s\nnot %v\n%s", what, from, to, ok, plainPicture(got), may, plainPicture(want))
	}
	if !ok {
		return got, false
	}
	checkGrammar(t, what, got)
	if back, right := impl.Renamed(got, to, from); !right || plainPicture(back) != plainPicture(g) {
		t.Fatalf("%s: Renamed from %q to %q and back: %v\n%s\nwas\n%s", what, from, to, right, plainPicture(back), plainPicture(g))
	}
	return got, true
}

// renamedTo wants the grammar, once it is Renamed, to be this one.
func renamedTo(t *testing.T, what string, g impl.Grammar, from, to string, want impl.Grammar) {
	t.Helper()
	checkGrammar(t, what, g)
	got, ok := checkRenamed(t, what, g, from, to)
	if !ok || plainPicture(got) != plainPicture(want) {
		t.Errorf("%s: Renamed from %q to %q: %v\n%s\nnot\n%s", what, from, to, ok, plainPicture(got), plainPicture(want))
	}
	sameRenamed(t, what, g, got, from, to, "ab1", 3)
}

func sameRenamed(t *testing.T, what string, g, renamed impl.Grammar, from, to, letters string, most int) int {
	t.Helper()
	name := regexp.MustCompile(`\b` + from + `\(`)
	return sameMeaning(t, what, g, renamed, letters, most, func(told string) string { return name.ReplaceAllString(told, to+"(") })
}

// refuseRenamed wants the grammar as it is.
func refuseRenamed(t *testing.T, what string, g impl.Grammar, from, to string) {
	t.Helper()
	got, ok := impl.Renamed(g, from, to)
	if ok || plainPicture(got) != plainPicture(g) {
		t.Errorf("%s: Renamed from %q to %q: %v\n%s\nwas\n%s", what, from, to, ok, plainPicture(got), plainPicture(g))
	}
	checkRenamed(t, what, g, from, to)
}

// anyText takes all texts of small letters and figures.
func anyText() impl.Rule { return ruleOf("Any", "", altOf(), altOf(symSet("a-z0-9"), symCall("Any"))) }

func TestWordsByHand(t *testing.T) {
	s, a, b := symCall("S"), symText("a"), symText("b")
	within := grammarOf(ruleOf("S", "", altOf(a, s, b), altOf()))
	wordsAre(t, "within", within, "ab", 4, "- ab aabb")
	wordsAre(t, "within, of two bytes", within, "ba", 2, "- ab")
	all := grammarOf(anyText())
	wordsAre(t, "all", all, "ab", 2, "- a b aa ab ba bb")
	wordsAre(t, "all of one letter", all, "a", 4, "- a aa aaa aaaa")
	wordsAre(t, "all of two letters", all, "01", 3, "- 0 1 00 01 10 11 000 001 010 011 100 101 110 111")
	wordsAre(t, "all of three letters", all, "abc", 2, "- a b c aa ab ac ba bb bc ca cb cc")
	wordsAre(t, "one word", grammarOf(ruleOf("S", "", altOf(a, b))), "ab", 4, "ab")
	wordsAre(t, "one word in one text", grammarOf(ruleOf("S", "", altOf(symText("ab")))), "abc", 4, "ab")
	wordsAre(t, "four bytes", grammarOf(ruleOf("S", "", altOf(symText("abca")))), "abc", 4, "abca")
	wordsAre(t, "nothing alone", grammarOf(ruleOf("S", "", altOf())), "abc", 4, "-")
	wordsAre(t, "a set", grammarOf(ruleOf("S", "", altOf(symSet("ac")))), "abc", 4, "a c")
	wordsAre(t, "several Alts", grammarOf(ruleOf("S", "", altOf(symText("ba")), altOf(b), altOf(symText("bab")), altOf(b))), "ab", 4, "b ba bab")
	wordsAre(t, "at the left", grammarOf(ruleOf("S", "", altOf(s, a), altOf(b))), "ab", 4, "b ba baa baaa")
	wordsAre(t, "both sides", bothSides(), "ab", 4, "a aa aaa aaaa")
	wordsAre(t, "two rules", grammarOf(ruleOf("S", "", altOf(symCall("T"), symCall("T"))), ruleOf("T", "", altOf(a), altOf(symText("bb")))), "ab", 4, "aa abb bba bbbb")
	wordsAre(t, "three rules", grammarOf(ruleOf("S", "", altOf(symCall("T"), symCall("U"))), ruleOf("T", "", altOf(), altOf(a)), ruleOf("U", "", altOf(b), altOf(b, symCall("T")))), "ab", 4, "b ab ba aba")
	wordsAre(t, "a circle", grammarOf(ruleOf("S", "", altOf(symCall("T")), altOf(b)), ruleOf("T", "", altOf(s), altOf(a))), "ba", 4, "b a")
	signs := grammarOf(ruleOf("S", "", altOf(symText("+"), s), altOf(symText("("), s, symText(")")), altOf()))
	wordsAre(t, "signs", signs, "(+)", 4, "- + () ++ (+) +() +++ (()) (++) +(+) ++() ++++")
	wordsAre(t, "signs in another order", signs, ")+(", 4, "- + ++ () +++ +() (+) ++++ ++() +(+) (++) (())")
}

func TestGrammarsThatAcceptNothingHaveNoWords(t *testing.T) {
	t.Parallel()
	s, a := symCall("S"), symText("a")
	noWords(t, "a circle alone", grammarOf(ruleOf("S", "", altOf(s))))
	noWords(t, "never at an end", grammarOf(ruleOf("S", "", altOf(a, s))))
	noWords(t, "a circle of two", grammarOf(ruleOf("S", "", altOf(symCall("T"))), ruleOf("T", "", altOf(s), altOf(a, s))))
	noWords(t, "an SyIf that does not go on", grammarOf(ruleOf("S", "", altOf(symIf(number(0))), altOf(a, symIf(number(0))))))
	noWords(t, "an Arg that is none", oneRule(altOf(symCall("N", exprOf(num(99), num(1), pair(impl.ExAdd, 0, 1))))))
	noWords(t, "five bytes", grammarOf(ruleOf("S", "", altOf(symText("aaaaa")))))
	noWords(t, "five calls", grammarOf(ruleOf("S", "", altOf(slices.Repeat([]impl.Sym{symCall("T")}, 5)...)), ruleOf("T", "", altOf(symSet("a-b")))))
	noWords(t, "too many goals", countGrammar(altOf(symCall("C", number(0), number(0)))))
	wordsAre(t, "too many goals", countGrammar(altOf(symCall("C", number(0), number(0)))), "yz", 2, "")
	// Only over what has a z there is one goal more: that text would be accepted else.
	late := func(from int) impl.Grammar {
		return countGrammar(altOf(symCall("C", number(0), number(from)), symCall("D")))
	}
	wordsAre(t, "a goal too many, late", late(1), "yz1", 3, "y")
	wordsAre(t, "as many goals as there may be", late(2), "yz1", 3, "y z1")
}

// Letters in the order in which they are told, not in that of their bytes.
func TestWordsGoByTheLettersPlaces(t *testing.T) {
	all := grammarOf(anyText())
	wordsAre(t, "backwards", all, "ba", 2, "- b a bb ba ab aa")
	wordsAre(t, "backwards", all, "cba", 2, "- c b a cc cb ca bc bb ba ac ab aa")
	wordsAre(t, "mixed", all, "bca", 2, "- b c a bb bc ba cb cc ca ab ac aa")
	wordsAre(t, "letters and figures", all, "a1", 2, "- a 1 aa a1 1a 11")
	ends := grammarOf(ruleOf("S", "", altOf(symCall("Any"), symText("b"))), anyText())
	wordsAre(t, "an end", ends, "cab", 3, "b cb ab bb ccb cab cbb acb aab abb bcb bab bbb")
	wordsAre(t, "an end", ends, "bac", 3, "b bb ab cb bbb bab bcb abb aab acb cbb cab ccb")
	for _, letters := range []string{"abc", "acb", "bac", "bca", "cab", "cba"} {
		for what, g := range map[string]impl.Grammar{"all": all, "an end": ends, "five": manyRules(5), "within": grammarOf(ruleOf("S", "", altOf(symText("a"), symCall("S"), symText("b")), altOf(), altOf(symText("c"))))} {
			words := checkWords(t, what, g, letters, 4)
			straight := checkWords(t, what, g, "abc", 4)
			slices.Sort(words)
			slices.Sort(straight)
			if !slices.Equal(words, straight) {
				t.Errorf("%s: the words of %q are %q", what, letters, words)
			}
		}
	}
}

// A letter that is told again is no more letter, and of those that are unlike the first three count.
func TestLettersThatAreToldAgain(t *testing.T) {
	all := grammarOf(anyText())
	for _, letters := range []string{"aa", "aaa", "aaaa", strings.Repeat("a", 100)} {
		wordsAre(t, "one letter", all, letters, 3, "- a aa aaa")
	}
	for _, letters := range []string{"aab", "aba", "abb", "abab", "abba", "aaab", "aaaab", "abbbbb", "aabbaabb"} {
		wordsAre(t, "two letters", all, letters, 2, "- a b aa ab ba bb")
	}
	for _, letters := range []string{"abc", "abcd", "abcde", "aabc", "aabbcc", "aabbccdd", "abcabc", "abcdabcd", "abacad", "abcda", "aaabbbccc", "abbc", "abcc", "abca", "abccd", "abc" + setBytes} {
		wordsAre(t, "three letters", all, letters, 2, "- a b c aa ab ac ba bb bc ca cb cc")
	}
	wordsAre(t, "backwards", all, "ccbcbbaabcd", 1, "- c b a")
	wordsAre(t, "the fourth", all, "dcba", 1, "- d c b")
	wordsAre(t, "the fourth is the first again", all, "dcbda", 1, "- d c b")
	// Letters that no rule takes are letters, too: the fourth is left out for them.
	wordsAre(t, "no rule takes it", all, "aZb", 2, "- a b aa ab ba bb")
	wordsAre(t, "no rule takes two", all, "Z!ab", 2, "- a aa")
	wordsAre(t, "no rule takes three", all, "Z!~ab", 4, "-")
	wordsAre(t, "no rule takes it, told again", all, "ZZZab", 1, "- a b")
	for _, letters := range []string{"Z", "ZY", "XYZ", " ", "\x00", "\xff\xfe", "S", "A", "-", "#!"} {
		wordsAre(t, "no rule takes any", all, letters, 4, "-")
		wordsAre(t, "no rule takes any", grammarOf(ruleOf("S", "", altOf(symText("a")))), letters, 4, "")
	}
}

// A letter is a byte, whatever it stands for.
func TestLettersAreBytes(t *testing.T) {
	all := grammarOf(anyText())
	for b := range 256 {
		letter := string([]byte{byte(b)})
		want := "-"
		if strings.Contains(setBytes, letter) {
			want += " " + letter + " " + letter + letter
		}
		wordsAre(t, "a byte", all, letter, 2, want)
		checkWords(t, "a byte among others", all, "a"+letter+"b", 2)
		checkWords(t, "a byte behind others", all, "a"+letter+letter+"bc", 2)
	}
	wordsAre(t, "two bytes of one sign", all, "éab", 2, "- a aa")
	wordsAre(t, "behind a letter", all, "aéb", 2, "- a aa")
	wordsAre(t, "two that begin alike", all, "éèa", 2, "-")
	wordsAre(t, "one told again", all, "ééab", 2, "- a aa")
	wordsAre(t, "three bytes of one sign", all, "€a", 2, "-")
	for _, letters := range []string{"\x00a", "a\x00b", "\xff\x80a", "é", "a\n", "\"a", "#a"} {
		checkWords(t, "other bytes", all, letters, 3)
	}
}

func TestWordsOfNoLetter(t *testing.T) {
	s, a := symCall("S"), symText("a")
	empty := map[string]impl.Grammar{
		"nothing alone": grammarOf(ruleOf("S", "", altOf())),
		"all":           grammarOf(anyText()),
		"nothing last":  grammarOf(ruleOf("S", "", altOf(a), altOf(s, a), altOf())),
		"by a call":     grammarOf(ruleOf("S", "", altOf(symCall("T"), symCall("T"))), ruleOf("T", "", altOf(a), altOf())),
		"by itself":     grammarOf(ruleOf("S", "", altOf(s, s), altOf())),
		"by an SyIf":    grammarOf(ruleOf("S", "", altOf(symIf(same(hereNode(), num(0)))))),
		"by a Bind":     grammarOf(ruleOf("S", "", altOf(symBound("n", "E"), symIf(same(named("n"), num(0))))), ruleOf("E", "", altOf())),
	}
	for what, g := range empty {
		for _, most := range []int{0, 1, 2, 3, 4, 5, 100, greatestInt} {
			wordsAre(t, what+", no letter", g, "", most, "-")
		}
		for _, letters := range []string{"", "a", "ab", "abc", "aabbccdd", "Z"} {
			wordsAre(t, what+", no byte", g, letters, 0, "-")
			for _, most := range []int{-1, -2, -4, -5, -100, leastInt, leastInt + 1} {
				wordsAre(t, what+", less than no byte", g, letters, most, "")
			}
			if words := checkWords(t, what, g, letters, 2); words[0] != "" {
				t.Errorf("%s: the first word is %q", what, words[0])
			}
		}
	}
	for what, g := range map[string]impl.Grammar{
		"a letter": grammarOf(ruleOf("S", "", altOf(a))), "both sides": bothSides(), "a circle": grammarOf(ruleOf("S", "", altOf(s))),
		"an SyIf": grammarOf(ruleOf("S", "", altOf(symIf(exprOf(hereNode()))))), "a length": lengthGrammar(),
	} {
		for _, most := range []int{leastInt, -1, 0, 1, 4, 5, greatestInt} {
			wordsAre(t, what+", no letter", g, "", most, "")
		}
		for _, letters := range []string{"a", "ab", "abc"} {
			wordsAre(t, what+", no byte", g, letters, 0, "")
		}
	}
}

// What is asked for beyond 4 bytes is cut down to them, and words of at most so many are the first ones of those.
func TestHowLongWordsMayBe(t *testing.T) {
	all := grammarOf(anyText())
	for letters, counts := range map[string][]int{"": {1, 1, 1, 1, 1}, "a": {1, 2, 3, 4, 5}, "ab": {1, 3, 7, 15, 31}, "abc": {1, 4, 13, 40, 121}, "abcd": {1, 4, 13, 40, 121}} {
		for most, want := range counts {
			if got := len(checkWords(t, "all", all, letters, most)); got != want {
				t.Errorf("%q, at most %d: %d words, not %d", letters, most, got, want)
			}
		}
		for _, most := range []int{5, 6, 7, 8, 12, 13, 100, 256, 1 << 32, greatestInt - 1, greatestInt} {
			if got := len(checkWords(t, "all", all, letters, most)); got != counts[4] {
				t.Errorf("%q, at most %d: %d words, not %d", letters, most, got, counts[4])
			}
		}
		for _, most := range []int{-1, -2, -5, -256, -1 << 32, leastInt + 1, leastInt} {
			if got := len(checkWords(t, "all", all, letters, most)); got != 0 {
				t.Errorf("%q, at most %d: %d words", letters, most, got)
			}
		}
	}
	wordsAre(t, "four", grammarOf(ruleOf("S", "", altOf(symText("aaaa")), altOf(symText("aaaaa")))), "a", 5, "aaaa")
	wordsAre(t, "four", grammarOf(ruleOf("S", "", altOf(symText("aaaa")), altOf(symText("aaaaa")))), "a", 3, "")
	for what, g := range rightGrammars() {
		for _, letters := range []string{"", "a", "1a", "ab1"} {
			long := checkWords(t, what, g, letters, 4)
			for most := -1; most < 8; most++ {
				cut := slices.DeleteFunc(slices.Clone(long), func(word string) bool { return len(word) > most })
				if got := checkWords(t, what, g, letters, most); !slices.Equal(got, cut) {
					t.Errorf("%s: of at most %d bytes %q, and of 4 %q", what, most, got, long)
				}
			}
		}
	}
}

func TestWordsWithNumbersByHand(t *testing.T) {
	wordsAre(t, "a length", lengthGrammar(), "1a2", 4, "1a 2aa")
	wordsAre(t, "a length", lengthGrammar(), "3a0", 4, "0 3aaa")
	wordsAre(t, "a length", lengthGrammar(), "a1b", 2, "1a 1b")
	wordsAre(t, "a length", lengthGrammar(), "20b", 3, "0 2bb")
	wordsAre(t, "a length that is too great", lengthGrammar(), "4a9", 4, "")
	down := exprOf(named("n"), num(1), pair(impl.ExSub, 0, 1))
	counted := func(n int) impl.Grammar {
		return grammarOf(ruleOf("S", "", altOf(symCall("R", number(n)))), ruleOf("R", "n", altOf(symIf(asked("n")), symSet("ab"), symCall("R", down)), altOf(symIf(exprOf(named("n"), not(0))))))
	}
	wordsAre(t, "none", counted(0), "ab", 4, "-")
	wordsAre(t, "one", counted(1), "ba", 4, "b a")
	wordsAre(t, "two", counted(2), "ab", 4, "aa ab ba bb")
	wordsAre(t, "four", counted(4), "a", 4, "aaaa")
	wordsAre(t, "five", counted(5), "a", 4, "")
	bound := func(n int) impl.Grammar {
		return grammarOf(ruleOf("S", "", altOf(symBound("n", "Any"), symIf(same(named("n"), num(n))))), anyText())
	}
	wordsAre(t, "0 is bound", bound(0), "0a", 4, "- 0 00")
	wordsAre(t, "1 is bound", bound(1), "1a0", 4, "1 a 01")
	wordsAre(t, "2 is bound", bound(2), "2a", 4, "2 2a a2 aa")
	wordsAre(t, "2 is bound", bound(2), "a2", 4, "2 aa a2 2a")
	wordsAre(t, "12 is bound", bound(12), "21a", 4, "12")
	wordsAre(t, "4 is bound", bound(4), "a", 4, "aaaa")
	wordsAre(t, "5 is bound", bound(5), "a5", 4, "5")
	here := func(n int) impl.Grammar {
		return grammarOf(ruleOf("S", "", altOf(symCall("Any"), symIf(same(hereNode(), num(n))), symText("b"))), anyText())
	}
	wordsAre(t, "at the first place", here(0), "ab", 4, "b")
	wordsAre(t, "at the third place", here(2), "ab", 4, "aab abb bab bbb")
	twice := grammarOf(ruleOf("S", "", altOf(symBound("a", "Any"), symText("b"), symBound("b", "Any"), symIf(same(named("a"), named("b"))))), anyText())
	wordsAre(t, "as many on both sides", twice, "ab", 3, "b aba abb bba bbb")
	wordsAre(t, "operators", climbGrammar(), "1+^", 3, "1 1+1 1^1")
	wordsAre(t, "operators", climbGrammar(), "(1)", 4, "1 (1)")
	wordsAre(t, "operators", climbGrammar(), "+12", 3, "1 2 1+1 1+2 2+1 2+2")
}

// flat is a right grammar that Flatten makes of what is written.
func flat(t *testing.T, written string) impl.Grammar {
	t.Helper()
	g, ok := impl.Flatten(surfaceIn(t, written))
	if !ok {
		t.Fatalf("Flatten of %q is false", written)
	}
	return g
}

func TestWordsOfGroupsByHand(t *testing.T) {
	for _, try := range []struct {
		written, letters string
		most             int
		want             string
	}{
		{`S -> ( "a" | "b" )* ;`, "ab", 2, "- a b aa ab ba bb"},
		{`S -> ( "a" | "b" )+ ;`, "ba", 2, "b a bb ba ab aa"},
		{`S -> ( "a" | "b" )? ;`, "ab", 4, "- a b"},
		{`S -> ( "a" | "b" ) ;`, "ab", 4, "a b"},
		{`S -> "a" ( "b" )? ( "c" )+ ;`, "abc", 4, "ac abc acc abcc accc"},
		{`S -> "a" ( "b" )? ( "c" )+ ;`, "cba", 4, "ac acc abc accc abcc"},
		{`S -> ( "ab" )* ( "a" )? ;`, "ab", 4, "- a ab aba abab"},
		{`S -> n:D ( "a" { n < 2 } )* ; D -> [0-9] ;`, "12a", 3, "1 2 1a 1aa"},
		{`S -> n:D T(n) ; D -> [0-9] ; T(n) -> { n = 0 } | { 0 < n } "a" T(n - 1) ;`, "10a", 3, "0 1a"},
		{`S -> ( ( "a" )+ "b" )+ ;`, "ab", 4, "ab aab aaab abab"},
		{`S -> ( )* ( | "a" )+ ;`, "a", 3, "- a aa aaa"},
	} {
		g := flat(t, try.written)
		wordsAre(t, try.written, g, try.letters, try.most, try.want)
		for _, word := range impl.Words(g, try.letters, try.most) {
			if !slices.Contains(impl.SurfaceEnds(surfaceIn(t, try.written), word, 0), len(word)) {
				t.Errorf("%s: %q is no word of the nodes", try.written, word)
			}
		}
	}
}

// The nodes themselves are asked, which know nothing of the plain rules.
func TestWordsOfGroupsAreThoseOfTheirNodes(t *testing.T) {
	t.Parallel()
	found, several := 0, 0
	for seed := range 300 {
		s := smallSurface(seeded(seed))
		g, ok := impl.Flatten(s)
		if !ok {
			continue
		}
		want := []string{}
		textsOf("a1", 3, func(text string) {
			if slices.Contains(impl.SurfaceEnds(s, text, 0), len(text)) {
				want = append(want, text)
			}
		})
		slices.SortFunc(want, func(a, b string) int { return slowOrder("a1", a, b) })
		if got := impl.Words(g, "a1", 3); !slices.Equal(got, want) {
			t.Fatalf("seed %d: %q, and by the nodes %q", seed, got, want)
		}
		found += oneOf(len(want) > 0)
		several += oneOf(len(want) > 2)
	}
	if found < 100 || several < 50 {
		t.Errorf("%d have words, %d several", found, several)
	}
}

// Each text is a word of its own letters when it is accepted, and is none else.
func TestWordsAreJustThoseThatAreAccepted(t *testing.T) {
	t.Parallel()
	words, others := 0, 0
	grammars := rightGrammars()
	grammars["all"], grammars["both sides"] = grammarOf(anyText()), bothSides()
	grammars["as many on both sides"] = grammarOf(ruleOf("S", "", altOf(symBound("a", "Any"), symText("+"), symBound("b", "Any"), symIf(same(named("a"), named("b"))))), anyText())
	for what, g := range grammars {
		textsOf("a1+b", 3, func(text string) {
			for _, letters := range []string{text, text + "a", "1" + text} {
				want := impl.Accepts(g, text) && strings.Trim(text, slowLetters(letters)) == ""
				if got := slices.Contains(impl.Words(g, letters, len(text)), text); got != want {
					t.Fatalf("%s: %q is a word of %q: %v", what, text, letters, got)
				}
				words, others = words+oneOf(want), others+oneOf(!want)
			}
			if len(text) > 0 && slices.Contains(impl.Words(g, text, len(text)-1), text) {
				t.Fatalf("%s: %q is a word of less bytes", what, text)
			}
		})
	}
	if words < 100 || others < 1000 {
		t.Errorf("%d words, %d others", words, others)
	}
}

// By a run that knows nothing of Accepts.
func TestWordsAgainstTheSlowRun(t *testing.T) {
	grammars := rightGrammars()
	for seed := range 120 {
		grammars[fmt.Sprint("seed ", seed)] = smallGrammar(seeded(seed))
	}
	for what, g := range grammars {
		want := []string{}
		textsOf("a1", 3, func(text string) {
			if c, ok := slowRun(g, text, g.Rules[0].Name, nil, 0); ok && slices.Contains(c.Goals[0].Ends, len(text)) {
				want = append(want, text)
			}
		})
		slices.SortFunc(want, func(a, b string) int { return slowOrder("a1", a, b) })
		if got := impl.Words(g, "a1", 3); !slices.Equal(got, want) {
			t.Fatalf("%s: %q, and by the slow run %q", what, got, want)
		}
	}
}

func TestWrongGrammarsHaveNoWords(t *testing.T) {
	for what, g := range wrongGrammars() {
		noWords(t, what, g)
	}
	for what, g := range oddGrammars() {
		noWords(t, what, g)
	}
	noWords(t, "31 rules", manyRules(31))
	wordsAre(t, "30 rules", manyRules(30), "ab", 4, "a")
	// A rule that is not come to makes it wrong, too.
	noWords(t, "a wrong rule", grammarOf(ruleOf("S", "", altOf()), ruleOf("T", "", altOf(symCall("U")))))
	wordsAre(t, "a right rule", grammarOf(ruleOf("S", "", altOf()), ruleOf("T", "", altOf(symCall("S")))), "ab", 4, "-")
}

// oddGrammars are not right, and have something in each field that nothing asks for.
func oddGrammars() map[string]impl.Grammar {
	odd := impl.Expr{Nodes: []impl.ExNode{
		{Op: 77, Num: -5, Name: "odd", Kids: []int{9, -9, leastInt}}, {Op: impl.ExNum, Num: greatestInt, Name: "S", Kids: []int{0}}, {}, {Op: impl.ExVar, Num: 3, Name: "S"},
	}}
	full := func(kind int) impl.Sym {
		return impl.Sym{Kind: kind, Text: "S", Args: []impl.Expr{odd, {}, number(1)}, Bind: "S"}
	}
	grammars := map[string]impl.Grammar{
		"no Names":        {Rules: []impl.Rule{{}, {}, {Alts: []impl.Alt{{}, {Syms: []impl.Sym{{}}}}}}},
		"bytes of no use": grammarOf(impl.Rule{Name: "S", Params: []string{"", "S", "\x00\xff", "b", "a"}, Alts: []impl.Alt{altOf(impl.Sym{Kind: -1, Text: "\x00é", Bind: "\xff"})}}),
		"a Name thrice":   grammarOf(ruleOf("S", "", altOf(symCall("S"))), ruleOf("S", "a", altOf()), ruleOf("T", "", altOf(symCall("S"))), ruleOf("S", "")),
		"a call of none":  grammarOf(ruleOf("S", "", altOf(symCall("T"), symCall("S"))), ruleOf("U", "", altOf(symCall("V")))),
		"not come to":     grammarOf(ruleOf("S", "", altOf()), ruleOf("T", "b a", altOf(symCall("S"))), ruleOf("U", "", altOf())),
		"a great Name":    grammarOf(ruleOf("Seven77", "", altOf(symCall("Seven77"), symCall("T"))), ruleOf("T", "", altOf())),
		"a first Param":   grammarOf(ruleOf("S", "n", altOf(symCall("T"))), ruleOf("T", "", altOf()), ruleOf("U", "", altOf())),
		"nine Alts":       grammarOf(ruleOf("S", "", slices.Repeat([]impl.Alt{altOf(symCall("S"))}, 9)...), ruleOf("T", "", altOf())),
		"nine Syms":       grammarOf(ruleOf("S", "", altOf(slices.Repeat([]impl.Sym{symCall("S")}, 9)...)), ruleOf("T", "", altOf())),
	}
	for _, kind := range []int{leastInt, -1, 0, impl.SyText, impl.SySet, impl.SyCall, impl.SyIf, 5, 77, greatestInt} {
		grammars[fmt.Sprint("a full Sym of the Kind ", kind)] = grammarOf(ruleOf("S", "", altOf(full(kind)), altOf()), ruleOf("T", "", altOf(full(kind), symCall("T"))))
	}
	return grammars
}

func TestCallsByHand(t *testing.T) {
	a, call := symText("a"), symCall
	g := grammarOf(
		ruleOf("S", "", altOf(call("T"), a, call("U")), altOf(), altOf(call("A"), call("T"))),
		ruleOf("T", "", altOf(call("T"), call("T")), altOf(call("T"))),
		ruleOf("U", "", altOf(a, symSet("a-z"), symIf(number(1)))),
		ruleOf("A", "", altOf(symBound("n", "S"), symBound("m", "A"), call("S"))))
	callsAre(t, "several Alts", g, 0, "A", "T", "U")
	callsAre(t, "itself", g, 1, "T")
	callsAre(t, "none", g, 2)
	callsAre(t, "bound", g, 3, "A", "S")
	for _, rule := range []int{leastInt, -4, -2, -1, 4, 5, 30, 100, greatestInt} {
		callsAre(t, "no such rule", g, rule)
	}
	callsAre(t, "no rules", impl.Grammar{}, 0)
	callsAre(t, "no Alts", grammarOf(ruleOf("S", "")), 0)
	callsAre(t, "with Args", lengthGrammar(), 0, "D", "Row")
	callsAre(t, "with Args", lengthGrammar(), 2, "Row")
	callsAre(t, "operators", climbGrammar(), 1, "A", "E")
	// Ascending byte by byte, a beginning being less.
	order := grammarOf(ruleOf("S", "", altOf(call("b"), call("a1"), call("B"), call("a"), call("aB"), call("Z9"), call("ab"), call("Z"))))
	callsAre(t, "in order", order, 0, "B", "Z", "Z9", "a", "a1", "aB", "ab", "b")
	for first := range 8 {
		turned := slices.Concat(order.Rules[0].Alts[0].Syms[first:], order.Rules[0].Alts[0].Syms[:first])
		callsAre(t, "in another order", grammarOf(ruleOf("S", "", altOf(turned[:3]...), altOf(turned[3:]...))), 0, "B", "Z", "Z9", "a", "a1", "aB", "ab", "b")
	}
	// Names that no rule has, and whatever else a call tells.
	wrong := grammarOf(ruleOf("S", "", altOf(call("None"), call(""), call("\xff"), call("a b"), call("None")), altOf(call("much longer than a Name"))))
	callsAre(t, "no Names", wrong, 0, "", "None", "a b", "much longer than a Name", "\xff")
	// What is told otherwise is no call.
	texts := grammarOf(ruleOf("S", "S", altOf(impl.Sym{Text: "S"}, symText("S"), symSet("S"), impl.Sym{Kind: impl.SyIf, Text: "S", Bind: "S"}, impl.Sym{Kind: 5, Text: "S"}, impl.Sym{Kind: impl.SyCall, Text: "T", Bind: "U", Args: []impl.Expr{asked("V")}})))
	callsAre(t, "no calls", texts, 0, "T")
	for what, g := range oddGrammars() {
		for rule := -2; rule < 8; rule++ {
			checkCalls(t, what, g, rule)
		}
	}
	for count := range 40 {
		g, want := manyRules(count), []string{}
		for rule := -1; rule <= count; rule++ {
			if want = nil; rule >= 0 && rule+1 < count {
				want = []string{fmt.Sprint("R", rule+1)}
			}
			callsAre(t, "one by one", g, rule, want...)
		}
	}
}

func TestTrimmedByHand(t *testing.T) {
	a, b, call := symText("a"), symText("b"), symCall
	trimsTo(t, "one rule", grammarOf(ruleOf("S", "", altOf(a))), "S")
	trimsTo(t, "itself", grammarOf(ruleOf("S", "", altOf(a, call("S")), altOf())), "S")
	trimsTo(t, "a length", lengthGrammar(), "S D Row")
	trimsTo(t, "operators", climbGrammar(), "S E A")
	trimsTo(t, "not called", grammarOf(ruleOf("S", "", altOf(a)), ruleOf("T", "", altOf(b))), "S")
	trimsTo(t, "called", grammarOf(ruleOf("S", "", altOf(a, call("T"))), ruleOf("T", "", altOf(b))), "S T")
	// Ahead of the others, between them, and behind them.
	kept, out := ruleOf("T", "", altOf(a)), ruleOf("X", "", altOf(b))
	first := ruleOf("S", "", altOf(b), altOf(call("T"), call("U")))
	second := ruleOf("U", "", altOf(b), altOf(a, call("T")))
	trimsTo(t, "behind the first", grammarOf(first, out, kept, second), "S T U")
	trimsTo(t, "in the middle", grammarOf(first, kept, out, second), "S T U")
	trimsTo(t, "at the end", grammarOf(first, kept, second, out), "S T U")
	trimsTo(t, "in another order", grammarOf(first, second, out, kept), "S U T")
	trimsTo(t, "none of them", grammarOf(first, second, kept), "S U T")
	// The first one is there in any case; it is not the one that most call.
	trimsTo(t, "the first one is called by others", grammarOf(ruleOf("X", "", altOf(a)), first, second, kept), "X")
	trimsTo(t, "the first one calls one of them", grammarOf(ruleOf("X", "", altOf(a), altOf(call("U"))), first, second, kept), "X U T")
	trimsTo(t, "the first one is called by none", grammarOf(ruleOf("X", "", altOf(call("S"))), kept, first, second), "X T S U")
	// By way of one another.
	trimsTo(t, "a row", grammarOf(ruleOf("S", "", altOf(call("T"))), ruleOf("V", "", altOf(a)), ruleOf("U", "", altOf(call("V"))), ruleOf("T", "", altOf(call("U")))), "S V U T")
	trimsTo(t, "a row that ends ahead", grammarOf(ruleOf("S", "", altOf(call("T"))), ruleOf("V", "", altOf(a)), ruleOf("U", "", altOf(call("V"))), ruleOf("T", "", altOf(b))), "S T")
	trimsTo(t, "a circle", grammarOf(ruleOf("S", "", altOf(call("T"))), ruleOf("T", "", altOf(call("U"))), ruleOf("U", "", altOf(call("S")), altOf(a))), "S T U")
	// From rules that are not come to, in circles as well.
	trimsTo(t, "from one that is out", grammarOf(ruleOf("S", "", altOf(a)), ruleOf("X", "", altOf(call("Y"))), ruleOf("Y", "", altOf(b))), "S")
	trimsTo(t, "from one that is out, told first", grammarOf(ruleOf("S", "", altOf(a)), ruleOf("Y", "", altOf(b)), ruleOf("X", "", altOf(call("Y")))), "S")
	trimsTo(t, "from one that is out, too", grammarOf(ruleOf("S", "", altOf(call("T"))), ruleOf("X", "", altOf(call("T"))), ruleOf("T", "", altOf(b))), "S T")
	trimsTo(t, "out in a circle", grammarOf(ruleOf("S", "", altOf(a)), ruleOf("X", "", altOf(call("X")), altOf(b))), "S")
	trimsTo(t, "out in a circle of two", grammarOf(ruleOf("S", "", altOf(a)), ruleOf("X", "", altOf(call("Y"))), ruleOf("Y", "", altOf(call("X")))), "S")
	trimsTo(t, "out in a circle of three, with the first", grammarOf(ruleOf("S", "", altOf(a), altOf(call("S"))), ruleOf("X", "", altOf(call("Y"))), ruleOf("Y", "", altOf(call("Z"))), ruleOf("Z", "", altOf(call("X"), call("S")))), "S")
	trimsTo(t, "two circles", grammarOf(ruleOf("S", "", altOf(call("T"))), ruleOf("X", "", altOf(call("Y"), call("T"))), ruleOf("T", "", altOf(call("S")), altOf(a)), ruleOf("Y", "", altOf(call("X"), call("S")))), "S T")
	// A call in the last Alt, the last Sym, behind what never goes on, bound, with Args.
	trimsTo(t, "the last Alt", grammarOf(ruleOf("S", "", append(slices.Repeat([]impl.Alt{altOf(a)}, 7), altOf(call("T")))...), ruleOf("T", "", altOf(b))), "S T")
	trimsTo(t, "the last Sym", grammarOf(ruleOf("S", "", altOf(append(slices.Repeat([]impl.Sym{a}, 7), call("T"))...)), ruleOf("T", "", altOf(b))), "S T")
	trimsTo(t, "behind what never goes on", grammarOf(ruleOf("S", "", altOf(a), altOf(symIf(number(0)), call("T"))), ruleOf("T", "", altOf(b))), "S T")
	trimsTo(t, "bound", grammarOf(ruleOf("S", "", altOf(symBound("n", "T"))), ruleOf("T", "", altOf(b))), "S T")
	trimsTo(t, "helpers", oneRule(altOf(a)), "S")
	trimsTo(t, "one helper", oneRule(altOf(call("N", number(1)), a)), "S N")
	trimsTo(t, "both helpers", oneRule(altOf(symBound("n", "D"), call("N", asked("n")))), "S D N")
	// What stands elsewhere as a rule's Name is no call.
	named := grammarOf(ruleOf("S", "", altOf(symText("t"), symSet("u"), symBound("v", "W", number(1)), symIf(asked("v")))),
		ruleOf("t", "", altOf()), ruleOf("u", "", altOf()), ruleOf("v", "", altOf()), ruleOf("W", "w", altOf(symIf(asked("w")))), ruleOf("w", "", altOf()))
	trimsTo(t, "Names as texts", named, "S W")
	// Names that begin alike, or are unlike in case.
	trimsTo(t, "Names that begin alike", grammarOf(ruleOf("A", "", altOf(call("Ab"))), ruleOf("AB", "", altOf()), ruleOf("Ab", "", altOf()), ruleOf("Abc", "", altOf()), ruleOf("a", "", altOf())), "A Ab")
	for count := 1; count <= 30; count++ {
		g := manyRules(count)
		trimsTo(t, "all of them", g, strings.Join(ruleNames(g), " "))
		for cut := range min(count, 4) {
			// Without its call, a rule comes to none of those behind it.
			short := manyRules(count)
			short.Rules[cut].Alts = short.Rules[cut].Alts[:1]
			trimsTo(t, "the first ones", short, strings.Join(ruleNames(g)[:cut+1], " "))
		}
	}
}

// What groups become is all come to, unless their rule is not.
func TestTrimmedGroups(t *testing.T) {
	trimsTo(t, "groups", flat(t, `S -> ( "a" )* ( "b" | T )? ; T -> ( "1" ) ;`), "S T x0 x1 x2")
	trimsTo(t, "groups of a rule that is out", flat(t, `S -> ( "a" )* ; T -> ( "1" ( S )+ ) ; U -> ( T )? ;`), "S x0")
	trimsTo(t, "groups behind one", flat(t, `S -> "a" U ; T -> ( "1" )* ; U -> ( "b" )+ ;`), "S U x1")
}

func TestWrongGrammarsAreTrimmedAsTheyAre(t *testing.T) {
	wrong := oddGrammars()
	for what, g := range wrongGrammars() {
		wrong[what] = g
	}
	wrong["31 rules"] = manyRules(31)
	cut := manyRules(31)
	cut.Rules[0].Alts = cut.Rules[0].Alts[:1]
	wrong["31 rules, not come to"] = cut
	for what, g := range wrong {
		if got := impl.Trimmed(g); plainPicture(got) != plainPicture(g) {
			t.Errorf("%s: Trimmed is\n%s\nwas\n%s", what, plainPicture(got), plainPicture(g))
		}
		checkTrimmed(t, what, g)
	}
	thirty := manyRules(30)
	thirty.Rules[0].Alts = thirty.Rules[0].Alts[:1]
	trimsTo(t, "30 rules, not come to", thirty, "R0")
}

func TestRenamedByHand(t *testing.T) {
	a, b, call := symText("a"), symText("b"), symCall
	within := func(name string) impl.Grammar {
		return grammarOf(ruleOf(name, "", altOf(a, call(name), b), altOf()))
	}
	for _, to := range []string{"T", "s", "a", "b", "SS", "S1", "x0", "Z99999", "abcdef", "ABCDEF"} {
		renamedTo(t, "one rule", within("S"), "S", to, within(to))
	}
	three := func(first, second, third string) impl.Grammar {
		return grammarOf(
			ruleOf(first, "", altOf(call(second), call(third)), altOf(call(second), a, call(second))),
			ruleOf(second, "", altOf(b), altOf(call(second), call(third), call(second)), altOf(call(first), call(third))),
			ruleOf(third, "", altOf(symText("1"))))
	}
	renamedTo(t, "the first of three", three("S", "T", "U"), "S", "New", three("New", "T", "U"))
	renamedTo(t, "the second of three", three("S", "T", "U"), "T", "New", three("S", "New", "U"))
	renamedTo(t, "the last of three", three("S", "T", "U"), "U", "New", three("S", "T", "New"))
	renamedTo(t, "unlike in case", three("S", "s", "sS"), "s", "SS", three("S", "SS", "sS"))
	renamedTo(t, "one that begins alike", three("A", "Ab", "Abc"), "Ab", "Abcd", three("A", "Abcd", "Abc"))
	renamedTo(t, "a beginning", three("A", "Ab", "Abc"), "A", "B", three("B", "Ab", "Abc"))
	renamedTo(t, "to a beginning", three("S", "Ab", "Abc"), "Abc", "A", three("S", "Ab", "A"))
	lengths := func(row string) impl.Grammar {
		g := lengthGrammar()
		g.Rules[2].Name, g.Rules[0].Alts[0].Syms[1].Text, g.Rules[2].Alts[1].Syms[2].Text = row, row, row
		return g
	}
	renamedTo(t, "with Args", lengthGrammar(), "Row", "n", lengths("n"))
	// Not called by any rule.
	beside := func(name string) impl.Grammar {
		return grammarOf(ruleOf("S", "", altOf(a)), ruleOf(name, "", altOf(call("S"))))
	}
	renamedTo(t, "not come to", beside("T"), "T", "U", beside("U"))
	// A SyText, a SySet, a Bind, a Param and a name that is asked for stay.
	alike := func(name string) impl.Grammar {
		return grammarOf(
			ruleOf("S", "", altOf(symText("a"), symSet("a"), symBound("a", name, number(1)), symIf(asked("a")), call(name, asked("a"))), altOf(symText("b"), symBound("b", name, number(2)), symIf(asked("b")))),
			ruleOf(name, "a b", altOf(symText("a"), symIf(twoNames(impl.ExSub))), altOf(call(name, asked("a"), asked("b")), symText("b"), symSet("ab"))))
	}
	for _, names := range [][2]string{{"a", "b"}, {"b", "a"}, {"a", "ab"}, {"ab", "b"}, {"a", "T"}, {"T", "a"}} {
		from, to := alike(names[0]), alike(names[1])
		for _, g := range []*impl.Grammar{&from, &to} {
			// Two Params need two Args.
			for i, sym := range g.Rules[0].Alts[0].Syms {
				if sym.Kind == impl.SyCall {
					g.Rules[0].Alts[0].Syms[i].Args = append(sym.Args, number(3))
				}
			}
			g.Rules[0].Alts[1].Syms[1].Args = numbers(2)
		}
		renamedTo(t, "Names as texts", from, names[0], names[1], to)
	}
	groups := flat(t, `S -> ( "a" )* ( "b" )? ;`)
	renamedTo(t, "a group", groups, "x0", "As", slowRenamed(groups, "x0", "As"))
	renamedTo(t, "to the next group", groups, "x1", "x2", slowRenamed(groups, "x1", "x2"))
}

func TestNamesThatRenamedRefuses(t *testing.T) {
	grammars := map[string]impl.Grammar{"a length": lengthGrammar(), "operators": climbGrammar(), "five": manyRules(5), "one rule": grammarOf(ruleOf("S", "", altOf(symCall("S")))), "30 rules": manyRules(30)}
	for what, g := range grammars {
		names := ruleNames(g)
		for _, from := range names {
			// Not right.
			for _, to := range []string{"", " ", "1", "0a", "1S", "abcdefg", "S234567", "a b", "a_b", "a-b", "é", "Sé", "S\x00", "\xff", "+", "S ", " S", "x(", strings.Repeat("a", 300)} {
				refuseRenamed(t, what, g, from, to)
			}
			// There, itself among them.
			for _, to := range names {
				refuseRenamed(t, what, g, from, to)
			}
			if _, ok := checkRenamed(t, what, g, from, "New"); !ok {
				t.Errorf("%s: %q is not Renamed", what, from)
			}
		}
		// No such rule.
		for _, from := range []string{"", "s", "T", "Ro", "Rows", "row", "R", "R00", "R30", "EE", " S", "S ", "x0", "n", "p", "a", "0-9", "\x00", strings.Repeat("S", 300)} {
			for _, to := range []string{"New", "", "1", from, names[0]} {
				refuseRenamed(t, what, g, from, to)
			}
		}
	}
	textsOf("aZ09_", 7, func(to string) {
		g := grammarOf(ruleOf("S", "", altOf(symCall("a"))), ruleOf("a", "", altOf()))
		if got, ok := impl.Renamed(g, "S", to); ok != (wholeRuleName.MatchString(to) && to != "a") || ok && got.Rules[0].Name != to {
			t.Fatalf("Renamed to %q: %v", to, ok)
		}
	})
}

func TestWrongGrammarsAreRenamedAsTheyAre(t *testing.T) {
	wrong := oddGrammars()
	for what, g := range wrongGrammars() {
		wrong[what] = g
	}
	wrong["31 rules"] = manyRules(31)
	// What would be right once it is Renamed.
	wrong["a Name too long"] = grammarOf(ruleOf("S", "", altOf(symCall("Seven77"))), ruleOf("Seven77", "", altOf()))
	wrong["a Name of no use"] = grammarOf(ruleOf("S", "", altOf()), ruleOf("", "", altOf()))
	wrong["a call of none"] = grammarOf(ruleOf("S", "", altOf(symCall("New"))))
	wrong["a Name twice"] = grammarOf(ruleOf("S", "", altOf()), ruleOf("T", "", altOf()), ruleOf("T", "", altOf()))
	for what, g := range wrong {
		for _, from := range append(ruleNames(g), "", "S", "T", "None") {
			for _, to := range append(ruleNames(g), "", "New", "1", "S", from) {
				refuseRenamed(t, what, g, from, to)
			}
		}
	}
}

// Whatever is added that is not come to: the words, the trees and what is Trimmed stay.
func TestWhatIsNotComeToChangesNothing(t *testing.T) {
	t.Parallel()
	grammars := rightGrammars()
	for seed := range 60 {
		grammars[fmt.Sprint("seed ", seed)] = smallGrammar(seeded(seed))
	}
	for what, g := range grammars {
		want, words := plainPicture(impl.Trimmed(g)), impl.Words(g, "a1b", 3)
		for i, rule := range []impl.Rule{
			ruleOf("More", "", altOf()), ruleOf("More", "", altOf(symCall("More"))), ruleOf("More", "a b", altOf(symText("a"), symCall(g.Rules[0].Name))), ownRule("More", 6),
		} {
			for _, at := range []int{1, (len(g.Rules) + 1) / 2, len(g.Rules)} {
				longer := impl.Grammar{Rules: slices.Insert(slices.Clone(g.Rules), at, rule)}
				checkGrammar(t, what, longer)
				if got := plainPicture(checkTrimmed(t, what, longer)); got != want {
					t.Fatalf("%s: with the rule %d at %d Trimmed is\n%s\nwas\n%s", what, i, at, got, want)
				}
				if got := impl.Words(longer, "a1b", 3); !slices.Equal(got, words) {
					t.Fatalf("%s: with the rule %d at %d the words are %q, and were %q", what, i, at, got, words)
				}
			}
		}
	}
}

// Each rule by another name, one after the other, and names that two rules have changed over.
func TestWhatARuleIsCalledChangesNothing(t *testing.T) {
	t.Parallel()
	grammars := rightGrammars()
	for seed := range 60 {
		grammars[fmt.Sprint("seed ", seed)] = smallGrammar(seeded(seed))
	}
	for what, g := range grammars {
		all, names := g, ruleNames(g)
		for i, from := range names {
			to := fmt.Sprint("Q", i, "z")
			renamed, ok := checkRenamed(t, what, all, from, to)
			if !ok {
				t.Fatalf("%s: %q is not Renamed", what, from)
			}
			sameRenamed(t, what, all, renamed, from, to, "a1", 3)
			all = renamed
		}
		if !slices.Equal(impl.Words(g, "a1+", 3), impl.Words(all, "a1+", 3)) {
			t.Fatalf("%s: other words once all rules are called otherwise", what)
		}
		for i := range names {
			if all.Rules[i].Name != fmt.Sprint("Q", i, "z") {
				t.Fatalf("%s: the rule %d is called %q", what, i, all.Rules[i].Name)
			}
		}
		if len(names) < 2 {
			continue
		}
		over, _ := checkRenamed(t, what, g, names[0], "Free")
		over, _ = checkRenamed(t, what, over, names[1], names[0])
		over, ok := checkRenamed(t, what, over, "Free", names[1])
		if !ok || over.Rules[0].Name != names[1] || over.Rules[1].Name != names[0] || !slices.Equal(impl.Words(g, "ab1", 3), impl.Words(over, "ab1", 3)) {
			t.Fatalf("%s: two names changed over: %v", what, over)
		}
	}
}

// Trimmed and Renamed may come in either order, and neither changes what a rule calls beyond the Name.
func TestTrimmedAndRenamedTogether(t *testing.T) {
	for seed := range 800 {
		next := seeded(seed)
		g := smallGrammar(next)
		from := ruleNames(g)[next(len(g.Rules))]
		renamed, _ := checkRenamed(t, "a seed", g, from, "New")
		trimmed := checkTrimmed(t, "a seed", g)
		turned, ok := checkRenamed(t, "a seed", trimmed, from, "New")
		if got, want := plainPicture(impl.Trimmed(renamed)), plainPicture(turned); got != want || ok != slices.Contains(ruleNames(trimmed), from) {
			t.Fatalf("seed %d:\n%s\nand the other way round\n%s", seed, got, want)
		}
		for rule := range g.Rules {
			calls := checkCalls(t, "a seed", g, rule)
			for i, name := range calls {
				if name == from {
					calls[i] = "New"
				}
			}
			slices.Sort(calls)
			if got := checkCalls(t, "a seed", renamed, rule); !slices.Equal(got, calls) {
				t.Fatalf("seed %d: the rule %d calls %q, not %q", seed, rule, got, calls)
			}
		}
	}
}

func TestWordsOfManySeeds(t *testing.T) {
	t.Parallel()
	const seeds = 700
	found, many, empty, trimmed, named := 0, 0, 0, 0, 0
	for seed := range seeds {
		next := seeded(seed + 90000)
		g, what := smallGrammar(next), fmt.Sprint("seed ", seed)
		letters := mixedOf("ab1Z", next, next(7))
		words := checkWords(t, what, g, letters, next(7)-1)
		found += oneOf(len(words) > 0)
		many += oneOf(len(words) > 10)
		empty += oneOf(len(words) > 0 && words[0] == "")
		short := checkTrimmed(t, what, g)
		if len(short.Rules) < len(g.Rules) {
			trimmed += oneOf(sameMeaning(t, what, g, short, "a1", 3, asTold) > 0)
		}
		from := ruleNames(g)[next(len(g.Rules))]
		renamed, _ := checkRenamed(t, what, g, from, "New")
		named += oneOf(sameRenamed(t, what, g, renamed, from, "New", "a1", 2) > 0)
	}
	if found < seeds/4 || many < seeds/20 || empty < seeds/10 || trimmed < seeds/20 || named < seeds/4 {
		t.Errorf("of %d: %d with words, %d with many, %d with the empty one, %d Trimmed, %d Renamed", seeds, found, many, empty, trimmed, named)
	}
}

// Grammars that may be wrong: these are handed back, and have no words.
func TestSpoiltGrammarsOfManySeeds(t *testing.T) {
	t.Parallel()
	const seeds = 4000
	right, trimmed, renamed := 0, 0, 0
	for seed := range seeds {
		next := seeded(seed)
		g, what := someGrammar(next), fmt.Sprint("seed ", seed)
		for range next(3) {
			spoil(next, &g)
		}
		names := append(ruleNames(g), "New", "R9", "", "zzzzzzz", "1")
		from, to := names[next(len(g.Rules)+1)], names[next(len(names))]
		if next(2) == 0 {
			to = "New"
		}
		_, ok := checkRenamed(t, what, g, from, to)
		renamed += oneOf(ok)
		short := checkTrimmed(t, what, g)
		trimmed += oneOf(len(short.Rules) < len(g.Rules))
		for rule := -1; rule <= len(g.Rules); rule++ {
			checkCalls(t, what, g, rule)
		}
		if !slowGrammarOk(g) {
			for _, most := range []int{0, 2} {
				if words := impl.Words(g, "aR0", most); len(words) > 0 {
					t.Fatalf("%s: Words(%v) = %q", what, g, words)
				}
			}
			continue
		}
		right++
		checkWords(t, what, g, "a0", 2)
	}
	if right < seeds/4 || right > seeds*3/4 || trimmed < seeds/20 || renamed < seeds/20 {
		t.Errorf("of %d: %d are right, %d Trimmed, %d Renamed", seeds, right, trimmed, renamed)
	}
}

// apartAndUnchanged asks all four of a grammar in memory of its own.
func apartAndUnchanged(t *testing.T, what string, plain impl.Grammar) {
	t.Helper()
	g := roomyGrammar(plain)
	for i := range g.Rules {
		for j := range g.Rules[i].Params {
			g.Rules[i].Params[j] = strings.Clone(g.Rules[i].Params[j])
		}
	}
	bytes := []byte("ba1NewS")
	told := unsafe.String(unsafe.SliceData(bytes), len(bytes))
	letters, to := told[:3], told[3:6]
	from := strings.Clone(firstName(plain))
	before := grammarPicture(g)
	lists, texts := grammarStretches(g)
	texts = append(texts, textStretch(told), textStretch(from))
	words, again := impl.Words(g, letters, 2), impl.Words(g, letters, 2)
	checkApart(t, what, []stretch{listStretch(words)}, append(lists, listStretch(again)))
	for _, word := range words {
		checkApart(t, what, []stretch{textStretch(word)}, texts)
	}
	for rule := -1; rule <= len(g.Rules); rule++ {
		calls, callsAgain := impl.CallsOf(g, rule), impl.CallsOf(g, rule)
		checkApart(t, what, []stretch{listStretch(calls)}, append(lists, listStretch(callsAgain)))
		for _, name := range calls {
			checkApart(t, what, []stretch{textStretch(name)}, texts)
		}
	}
	renamed, _ := impl.Renamed(g, from, to)
	refused, _ := impl.Renamed(g, from, from)
	for i, answer := range []impl.Grammar{impl.Trimmed(g), renamed, refused} {
		answerLists, answerTexts := grammarStretches(answer)
		checkApart(t, fmt.Sprint(what, ", ", i), answerLists, lists)
		checkApart(t, fmt.Sprint(what, ", ", i), answerTexts, texts)
		checkEachApart(t, fmt.Sprint(what, ", ", i), answerLists)
	}
	if after := grammarPicture(g); after != before || string(bytes) != "ba1NewS" {
		t.Fatalf("%s: an argument is changed:\n%s\nwas\n%s", what, after, before)
	}
	// The room behind the lists is not looked at.
	if !slices.Equal(words, impl.Words(plain, "ba1", 2)) || plainPicture(impl.Trimmed(g)) != plainPicture(impl.Trimmed(plain)) {
		t.Fatalf("%s: with spare room behind its lists %q", what, words)
	}
	want, _ := impl.Renamed(plain, from, "New")
	if plainPicture(renamed) != plainPicture(want) {
		t.Fatalf("%s: with spare room behind its lists Renamed is\n%s", what, plainPicture(renamed))
	}
}

func TestWordsShareNoMemory(t *testing.T) {
	grammars := rightGrammars()
	for what, g := range wrongGrammars() {
		grammars["wrong: "+what] = g
	}
	for what, g := range oddGrammars() {
		grammars["odd: "+what] = g
	}
	grammars["nothing"] = impl.Grammar{}
	grammars["named alike"] = grammarOf(ruleOf("S", "", altOf(symCall("T"))), ruleOf("X", "", altOf(symCall("X"))), ruleOf("T", "", altOf(symCall("S"), symText("a")), altOf()))
	for seed := range 150 {
		grammars[fmt.Sprint("seed ", seed)] = smallGrammar(seeded(seed))
	}
	for what, g := range grammars {
		apartAndUnchanged(t, what, g)
	}
}

func TestRoomBehindWordsIsNotLookedAt(t *testing.T) {
	rules := []impl.Rule{ruleOf("S", "", altOf(symText("a")), altOf(symCall("T"))), ruleOf("T", "", altOf(symText("b")))}
	g := impl.Grammar{Rules: rules[:1]}
	callsAre(t, "behind the rules", g, 1)
	callsAre(t, "of none that is there", g, 0, "T")
	noWords(t, "a call of a rule behind the list", g)
	refuseRenamed(t, "a rule behind the list", g, "T", "U")
	g.Rules[0].Alts = g.Rules[0].Alts[:1]
	callsAre(t, "behind the Alts", g, 0)
	refuseRenamed(t, "a rule behind the list", g, "T", "U")
	renamedTo(t, "to a Name behind the list", g, "S", "T", grammarOf(ruleOf("T", "", altOf(symText("a")))))
	trimsTo(t, "a call behind the Alts", impl.Grammar{Rules: rules}, "S")
	rules[0].Alts[0].Syms = []impl.Sym{symText("b"), symCall("T")}[:1]
	trimsTo(t, "a call behind the Syms", impl.Grammar{Rules: rules}, "S")
	wordsAre(t, "a call behind the Syms", impl.Grammar{Rules: rules}, "ab", 4, "b")
}

func TestWordsAnswerTheSameAgain(t *testing.T) {
	g := grammarOf(ruleOf("S", "", altOf(symText("a"), symCall("S"), symText("b")), altOf()), ruleOf("X", "", altOf(symCall("X"))))
	for range 100 {
		wordsAre(t, "again", g, "ba", 4, "- ab aabb")
		callsAre(t, "again", g, 0, "S")
		trimsTo(t, "again", g, "S")
		refuseRenamed(t, "again", g, "S", "X")
		noWords(t, "a circle alone", grammarOf(ruleOf("S", "", altOf(symCall("S")))))
		// What was answered may be written over.
		words, calls := impl.Words(g, "ab", 4), impl.CallsOf(g, 0)
		trimmed := impl.Trimmed(g)
		renamed, _ := impl.Renamed(g, "S", "T")
		refused, _ := impl.Renamed(g, "S", "S")
		words[0], calls[0] = "over", "over"
		for _, other := range []impl.Grammar{trimmed, renamed, refused} {
			for i := range other.Rules {
				for j := range other.Rules[i].Alts {
					for k := range other.Rules[i].Alts[j].Syms {
						other.Rules[i].Alts[j].Syms[k] = impl.Sym{Kind: 77, Text: "over"}
					}
				}
				other.Rules[i].Name = "over"
			}
		}
	}
}

// What is far too great is answered, and soon.
func TestHugeWords(t *testing.T) {
	t.Parallel()
	all := grammarOf(anyText())
	wordsAre(t, "many letters", all, strings.Repeat("ab", 2000000), 2, "- a b aa ab ba bb")
	wordsAre(t, "many letters", all, strings.Repeat(allBytes(), 20000), 4, "-")
	syms, names := []impl.Sym{}, []string{}
	for i := range 100000 {
		syms = append(syms, symCall(fmt.Sprintf("R%06d", 99999-i)), symCall("R000000"))
		names = append(names, fmt.Sprintf("R%06d", i))
	}
	g := grammarOf(ruleOf("S", "", altOf(syms...)))
	if !slices.Equal(impl.CallsOf(g, 0), names) {
		t.Error("many calls")
	}
	noWords(t, "many calls", g)
	renamed, ok := impl.Renamed(g, "S", "T")
	for what, other := range map[string]impl.Grammar{"Trimmed": impl.Trimmed(g), "Renamed": renamed} {
		alike := func(a, b impl.Sym) bool { return a.Kind == b.Kind && a.Text == b.Text }
		if ok || other.Rules[0].Name != "S" || !slices.EqualFunc(other.Rules[0].Alts[0].Syms, syms, alike) {
			t.Errorf("many calls are %s", what)
		}
	}
	rules := manyRules(3000)
	noWords(t, "many rules", rules)
	if got := impl.Trimmed(rules); plainPicture(got) != plainPicture(rules) {
		t.Error("many rules are Trimmed")
	}
	if got, ok := impl.Renamed(rules, "R0", "T"); ok || plainPicture(got) != plainPicture(rules) {
		t.Error("many rules are Renamed")
	}
}
