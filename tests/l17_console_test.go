package tests

import (
	"fmt"
	"slices"
	"strings"
	"sync"
	"testing"
	"unsafe"

	"loop.example/g00243/impl"
)

// slowLines cuts byte by byte.
func slowLines(s string) []string {
	lines, line := []string{}, ""
	for i := range len(s) {
		if s[i] == 10 {
			lines, line = append(lines, line), ""
			continue
		}
		line += s[i : i+1]
	}
	// What has no byte 10 behind it is a line only if there is any of it.
	if line != "" {
		lines = append(lines, line)
	}
	return lines
}

// slowReadScript goes through all lines once, and asks afterwards what was wrong.
func slowReadScript(s string) (impl.Grammar, []string, int) {
	if len(s) > 1500 {
		return impl.Grammar{}, nil, -1
	}
	head, texts, isParted, wrong, lines := "", []string{}, false, 0, slowLines(s)
	for at, line := range lines {
		switch {
		case isParted:
			texts = append(texts, line)
			if wrong == 0 && (len(line) > 12 || len(texts) == 21) {
				wrong = at + 1
			}
		case line == "---":
			isParted = true
		default:
			head += line + "\n"
		}
	}
	surface, ok := impl.ReadSurface(head)
	if !ok {
		return impl.Grammar{}, nil, 1
	}
	if !isParted {
		wrong = len(lines) + 1
	}
	if wrong > 0 {
		return impl.Grammar{}, nil, wrong
	}
	g, _ := impl.Flatten(surface)
	return g, texts, 0
}

func slowAnswer(g impl.Grammar, text string) string {
	if !impl.Accepts(g, text) {
		return "no"
	}
	name := g.Rules[0].Name
	count := impl.CountTrees(g, text, name, nil, 0, len(text), 8)
	tree, _ := impl.FirstTree(g, text, name, nil, 0, len(text))
	return fmt.Sprintf("yes %d %s", count, impl.TreeText(g, tree))
}

func checkAnswer(t *testing.T, what string, g impl.Grammar, text string) string {
	t.Helper()
	got := impl.Answer(g, text)
	if want := slowAnswer(g, text); got != want {
		t.Fatalf("%s: Answer(%v, %q) = %q, not %q", what, g, text, got, want)
	}
	return got
}

func answerIs(t *testing.T, what string, g impl.Grammar, text, want string) {
	t.Helper()
	if got := checkAnswer(t, what, g, text); got != want {
		t.Errorf("%s: Answer of %q is %q, not %q", what, text, got, want)
	}
}

// checkConsole wants of each text its Answer, a line each, or the fault alone.
func checkConsole(t *testing.T, what, s string, g impl.Grammar, texts []string, fault int) string {
	t.Helper()
	want := ""
	if fault != 0 {
		want = fmt.Sprintf("fault %d\n", fault)
	}
	for _, text := range texts {
		want += slowAnswer(g, text) + "\n"
	}
	got := impl.Console(s)
	if got != want {
		t.Fatalf("%s: Console(%q) = %q, not %q", what, s, got, want)
	}
	if fault == 0 && strings.Count(got, "\n") != len(texts) {
		t.Fatalf("%s: Console(%q) = %q of %d texts", what, s, got, len(texts))
	}
	return got
}

// checkScript holds ReadScript and Console against the slow ones.
func checkScript(t *testing.T, what, s string) (impl.Grammar, []string, int) {
	t.Helper()
	g, texts, fault := impl.ReadScript(s)
	wantGrammar, wantTexts, wantFault := slowReadScript(s)
	if fault != wantFault || !slices.Equal(texts, wantTexts) || plainPicture(g) != plainPicture(wantGrammar) {
		t.Fatalf("%s: ReadScript(%q) is\n%s%q %d\nnot\n%s%q %d", what, s, plainPicture(g), texts, fault, plainPicture(wantGrammar), wantTexts, wantFault)
	}
	if fault != 0 && (len(g.Rules) > 0 || len(texts) > 0) {
		t.Fatalf("%s: beside the fault %d ReadScript(%q) has\n%s%q", what, fault, s, plainPicture(g), texts)
	}
	if fault == 0 && !slowGrammarOk(g) {
		t.Fatalf("%s: what ReadScript(%q) tells is not right:\n%s", what, s, plainPicture(g))
	}
	checkConsole(t, what, s, g, texts, fault)
	return g, texts, fault
}

// tellsAs wants these lines of the texts; they end with a byte 10 or not, and answer alike.
func tellsAs(t *testing.T, grammar string, texts []string, want ...string) {
	t.Helper()
	script := grammar + "---\n" + strings.Join(texts, "\n")
	if len(texts) > 0 && texts[len(texts)-1] != "" {
		textsAre(t, script, texts, want)
	}
	if len(texts) > 0 {
		script += "\n"
	}
	textsAre(t, script, texts, want)
}

func textsAre(t *testing.T, script string, texts, want []string) {
	t.Helper()
	_, got, fault := checkScript(t, "by hand", script)
	if fault != 0 || !slices.Equal(got, texts) {
		t.Errorf("the texts of %q are %q (fault %d), not %q", script, got, fault, texts)
	}
	lines := ""
	for _, line := range want {
		lines += line + "\n"
	}
	if told := impl.Console(script); told != lines {
		t.Errorf("Console(%q) = %q, not %q", script, told, lines)
	}
}

func faultIs(t *testing.T, what, script string, want int) {
	t.Helper()
	if _, _, fault := checkScript(t, what, script); fault != want {
		t.Errorf("%s: the fault of %q is %d, not %d", what, script, fault, want)
	}
	if got := impl.Console(script); got != fmt.Sprintf("fault %d\n", want) {
		t.Errorf("%s: Console(%q) = %q", what, script, got)
	}
}

// noFault wants just these texts.
func noFault(t *testing.T, what, script string, want ...string) {
	t.Helper()
	if _, texts, fault := checkScript(t, what, script); fault != 0 || !slices.Equal(texts, want) {
		t.Errorf("%s: the texts of %q are %q (fault %d), not %q", what, script, texts, fault, want)
	}
}

const (
	rowScript    = "S -> \"a\" S | ;\n"
	pairScript   = "S -> S S | \"a\" ;\n"
	circleScript = "S -> S | \"a\" ;\n"
	lengthScript = "# a length, and as many letters\nS -> n:D Row(n) ;\nD -> [0-9] ;\n\nRow(n) -> { n = 0 }\n  | { 0 < n } [a-z] Row(n-1) ;\n"
	opsScript    = "S -> E(0) ;\nE(p) -> { !(1 < p) } E(1) \"+\" E(2) | { !(2 < p) } E(3) \"^\" E(2) | A ;\nA -> [0-9] | \"(\" E(0) \")\" ;\n"
)

func TestScriptsOfOneLineByHand(t *testing.T) {
	tellsAs(t, rowScript, []string{}, []string{}...)
	tellsAs(t, rowScript, []string{"aa", "b"}, "yes 1 S(S(S()))", "no")
	tellsAs(t, rowScript, []string{"", "a", "", "aab", ""}, "yes 1 S()", "yes 1 S(S())", "yes 1 S()", "no", "yes 1 S()")
	tellsAs(t, pairScript, []string{"a", "aa", "aaa", "aaaa", "aaaaa", "", "b"},
		"yes 1 S()", "yes 1 S(S() S())", "yes 2 S(S(S() S()) S())", "yes 5 S(S(S(S() S()) S()) S())", "yes 14 S(S(S(S(S() S()) S()) S()) S())", "no", "no")
	tellsAs(t, circleScript, []string{"a", "", "aa"}, "yes 8 S()", "no", "no")
	tellsAs(t, "S -> T ; T -> S | U | \"b\" ; U -> T | ;\n", []string{"b"}, "yes 15 S(T())")
	tellsAs(t, "S -> ;\n", []string{"", "a"}, "yes 1 S()", "no")
	tellsAs(t, "S -> \"a\" | [a-c] | T ; T -> \"a\" ;\n", []string{"a", "b", "d"}, "yes 3 S()", "yes 1 S()", "no")
	tellsAs(t, "S -> S ;\n", []string{"", "S"}, "no", "no")
}

func TestScriptsOfSeveralLinesByHand(t *testing.T) {
	tellsAs(t, lengthScript, []string{"0", "2ab", "2abc", "3ab", "", "9abcdefghi", "6abcdef"},
		"yes 1 S(D() Row())", "yes 1 S(D() Row(Row(Row())))", "no", "no", "no",
		"yes 0 S(D() Row(Row(Row(Row(Row(Row(Row(Row(Row(Row()))))))))))", "yes 1 S(D() Row(Row(Row(Row(Row(Row(Row())))))))")
	tellsAs(t, opsScript, []string{"1", "1+2", "1+2+3", "1^2^3", "1+2^3", "(1)", "1+", "((1))", "(((1)))"},
		"yes 1 S(E(A()))",
		"yes 1 S(E(E(A()) E(A())))",
		"yes 1 S(E(E(E(A()) E(A())) E(A())))",
		"yes 1 S(E(E(A()) E(E(A()) E(A()))))",
		"yes 1 S(E(E(A()) E(E(A()) E(A()))))",
		"yes 1 S(E(A(E(A()))))",
		"no",
		"yes 1 S(E(A(E(A(E(A()))))))",
		"yes 0 S(E(A(E(A(E(A(E(A()))))))))")
	tellsAs(t, "S -> ( \"a\"\n| \"b\" )+\n[0-9]\n;\n", []string{"ab1", "a1", "1", "ab"}, "yes 1 S(x0(x0()))", "yes 1 S(x0())", "no", "no")
	tellsAs(t, "S -> ( \"a\" | b:D { b = 1 } )* ( \"z\" )? ;\nD -> [0-9] ;\n", []string{"", "az", "1", "2", "a1az"},
		"yes 1 S(x0() x1())", "yes 1 S(x0(x0()) x1())", "yes 1 S(x0(D() x0()) x1())", "no", "yes 1 S(x0(x0(D() x0(x0()))) x1())")
	tellsAs(t, "S -> ( ( \"a\" )* )* ;\n", []string{"", "a"}, "yes 7 S(x0())", "yes 20 S(x0(x1(x1()) x0()))")
}

// Lines end with the byte 10 alone; whatever other byte a text has is its own.
func TestTextsAreWholeLines(t *testing.T) {
	tellsAs(t, "S -> \"-\" S | ;\n", []string{"---", "-", "--", "----", " ---", "--- "},
		"yes 1 S(S(S(S())))", "yes 1 S(S())", "yes 1 S(S(S()))", "yes 1 S(S(S(S(S()))))", "no", "no")
	tellsAs(t, rowScript, []string{"a\r", "\r", " a", "a ", "\x00", "\xff\xfe", "é", "#a", "# a", "\"a\"", "a;", "S"},
		slices.Repeat([]string{"no"}, 12)...)
	for b := range 256 {
		if b != 10 {
			noFault(t, "a byte alone", rowScript+"---\n"+string([]byte{byte(b)}), string([]byte{byte(b)}))
			noFault(t, "twelve bytes", rowScript+"---\n"+strings.Repeat(string([]byte{byte(b)}), 12)+"\n", strings.Repeat(string([]byte{byte(b)}), 12))
			faultIs(t, "thirteen bytes", rowScript+"---\n"+strings.Repeat(string([]byte{byte(b)}), 13), 3)
		}
	}
}

// deepScript has a tree of one node for S, and of one more than the number for R.
func deepScript(n int) string {
	return fmt.Sprintf("S -> R(%d) ; R(n) -> { n = 0 } | { 0 < n } R(n-1) ;\n", n)
}

// wideScript has a tree of three floors, of 57 nodes and so many more.
func wideScript(more int) string {
	return "S -> T T T T T T T W ;\nT -> U U U U U U U ;\nW ->" + strings.Repeat(" U", more-1) + " ;\nU -> ;\n"
}

func TestTreesThatAreTooGreatOrTooHigh(t *testing.T) {
	for n := range 70 {
		count, told := 0, "S("+strings.Repeat("R(", n+1)+strings.Repeat(")", n+2)
		if n+2 <= 8 {
			count = 1
		}
		if n+2 > 60 {
			told = ""
		}
		tellsAs(t, deepScript(n), []string{"", "a"}, fmt.Sprintf("yes %d %s", count, told), "no")
	}
	tellsAs(t, wideScript(3), []string{""}, "yes 1 S("+strings.Repeat("T(U() U() U() U() U() U() U()) ", 7)+"W(U() U()))")
	tellsAs(t, wideScript(4), []string{"", "a", ""}, "yes 1 ", "no", "yes 1 ")
	for more := 5; more < 9; more++ {
		tellsAs(t, wideScript(more), []string{""}, "yes 1 ")
	}
	// More trees than are counted.
	tellsAs(t, "S -> T T T T T T T T ;\nT -> | | | | | ;\n", []string{""}, "yes 1000000 S(T() T() T() T() T() T() T() T())")
}

func TestAnswersByHand(t *testing.T) {
	answerIs(t, "a b within", withinGrammar(), "ab", "yes 1 S(S())")
	answerIs(t, "a b within", withinGrammar(), "", "yes 1 S()")
	answerIs(t, "a b within", withinGrammar(), "aabb", "yes 1 S(S(S()))")
	answerIs(t, "a b within", withinGrammar(), "aab", "no")
	answerIs(t, "a length", lengthGrammar(), "2ab", "yes 1 S(D() Row(Row(Row())))")
	answerIs(t, "operators", climbGrammar(), "1+2", "yes 1 S(E(E(A()) E(A())))")
	answerIs(t, "both sides", bothSides(), "aaa", "yes 2 S(S(S() S()) S())")
	answerIs(t, "wide", wideGrammar(3), "", "yes 1 S("+strings.Repeat("T(U() U() U() U() U() U() U()) ", 7)+"W(U() U()))")
	answerIs(t, "too wide", wideGrammar(4), "", "yes 1 ")
	rows := grammarOf(ruleOf("Row", "", altOf(symText("a"), symCall("Row")), altOf()))
	for length := range 20 {
		want := "no"
		if length <= 12 {
			want = fmt.Sprintf("yes %d %sRow()%s", oneOf(length < 8), strings.Repeat("Row(", length), strings.Repeat(")", length))
		}
		answerIs(t, fmt.Sprint(length, " bytes"), rows, strings.Repeat("a", length), want)
	}
	// The first rule counts, whatever its Name, and of several of a Name there is none.
	answerIs(t, "two rules", grammarOf(ruleOf("T", "", altOf(symText("a"))), ruleOf("S", "", altOf(symText("b")))), "a", "yes 1 T()")
	answerIs(t, "two rules", grammarOf(ruleOf("T", "", altOf(symText("a"))), ruleOf("S", "", altOf(symText("b")))), "b", "no")
	answerIs(t, "as many goals as there may be", countGrammar(altOf(symCall("C", number(0), number(1)))), "z", "yes 0 ")
	answerIs(t, "too many goals", countGrammar(altOf(symCall("C", number(0), number(0)))), "z", "no")
}

func TestWrongGrammarsAnswerNo(t *testing.T) {
	grammars := wrongGrammars()
	for what, g := range oddGrammars() {
		grammars["odd: "+what] = g
	}
	for what, g := range grammars {
		for _, text := range []string{"", "a", "b", "S", "ab", strings.Repeat("a", 12), strings.Repeat("a", 13), "\xff"} {
			if impl.GrammarOk(g) {
				checkAnswer(t, what, g, text)
				continue
			}
			answerIs(t, what, g, text, "no")
		}
	}
}

func TestAnswersOfManyGrammars(t *testing.T) {
	t.Parallel()
	taken := 0
	check := func(what string, g impl.Grammar, text string) {
		taken += oneOf(strings.HasPrefix(checkAnswer(t, what, g, text), "yes "))
	}
	for what, g := range rightGrammars() {
		textsOf("ab1", 4, func(text string) { check(what, g, text) })
	}
	for seed := range 800 {
		next := seeded(seed)
		g := smallGrammar(next)
		for length := range 5 {
			check(fmt.Sprint("seed ", seed), g, mixedOf("ab1", next, length))
		}
		spoil(next, &g)
		check(fmt.Sprint("spoiled ", seed), g, mixedOf("ab1", next, next(4)))
	}
	if taken < 2000 {
		t.Errorf("only %d were accepted", taken)
	}
}

// manyTexts are so many, each of another length than those beside it.
func manyTexts(count int) []string {
	texts := []string{}
	for i := range count {
		texts = append(texts, strings.Repeat("a", i%5))
	}
	return texts
}

func TestAsManyTextsAsThereMayBe(t *testing.T) {
	for count := range 30 {
		texts := manyTexts(count)
		script := rowScript + "---\n" + strings.Join(texts, "\n")
		if count > 0 {
			script += "\n"
		}
		if count > 20 {
			faultIs(t, "too many", script, 23)
			faultIs(t, "too many, and too long later on", script+strings.Repeat("a", 13)+"\n", 23)
			continue
		}
		noFault(t, "as many as there may be", script, texts...)
		if count > 0 {
			noFault(t, "without a byte 10 at the end", rowScript+"---\n"+strings.Join(texts[:count-1], "\n")+strings.Repeat("\n", oneOf(count > 1))+"aa", append(texts[:count-1:count-1], "aa")...)
		}
	}
	twenty := rowScript + "---\n" + strings.Join(manyTexts(20), "\n") + "\n"
	noFault(t, "twenty", twenty, manyTexts(20)...)
	faultIs(t, "an empty line as the 21st", twenty+"\n", 23)
	faultIs(t, "a text as the 21st", twenty+"a", 23)
	faultIs(t, "a text that is too long as the 21st", twenty+strings.Repeat("a", 13), 23)
	noFault(t, "twenty empty lines", rowScript+"---\n"+strings.Repeat("\n", 20), make([]string, 20)...)
	faultIs(t, "21 empty lines", rowScript+"---\n"+strings.Repeat("\n", 21), 23)
	// The grammar's lines count, however many they are.
	faultIs(t, "behind six lines", "S\n->\n\"a\"\n\n;\n#\n---\n"+strings.Repeat("a\n", 21), 28)
	faultIs(t, "behind many lines", strings.Repeat("\n", 500)+rowScript+"---\n"+strings.Repeat("a\n", 21), 523)
}

func TestTextsThatAreTooLong(t *testing.T) {
	for at := range 20 {
		for length := 10; length < 16; length++ {
			texts := manyTexts(20)
			texts[at] = strings.Repeat("a", length)
			script := rowScript + "---\n" + strings.Join(texts, "\n") + "\n"
			if length <= 12 {
				noFault(t, "long", script, texts...)
				continue
			}
			faultIs(t, "too long", script, 3+at)
			faultIs(t, "too long twice", rowScript+"---\n"+strings.Join(texts[:at+1], "\n")+"\n"+strings.Repeat("b", 900), 3+at)
			faultIs(t, "too long, and too many", script+"a\na\n", 3+at)
			faultIs(t, "too long, and the grammar wrong", "S -> S\n---\n"+strings.Join(texts, "\n"), 1)
		}
	}
	faultIs(t, "too long without a byte 10", rowScript+"---\naaaaaaaaaaaaa", 3)
	noFault(t, "long without a byte 10", rowScript+"---\naaaaaaaaaaaa", "aaaaaaaaaaaa")
	faultIs(t, "too long behind an empty line", rowScript+"---\n\n\naaaaaaaaaaaaa\n", 5)
}

func TestScriptsWithoutAMark(t *testing.T) {
	faultIs(t, "one line", "S -> ;\n", 2)
	faultIs(t, "one line without a byte 10", "S -> ;", 2)
	faultIs(t, "an empty line behind", "S -> ;\n\n", 3)
	faultIs(t, "two empty lines behind", "S -> ;\n\n\n", 4)
	faultIs(t, "several lines", lengthScript, 7)
	faultIs(t, "several lines without a byte 10", strings.TrimSuffix(lengthScript, "\n"), 7)
	faultIs(t, "a mark in a remark", "S -> ; #---\n#---\n# ---\n", 4)
	faultIs(t, "many lines", rowScript+strings.Repeat("\n", 500), 502)
	// What looks like a mark is of the grammar's lines, and makes it none.
	for _, other := range []string{"-", "--", "----", " ---", "--- ", "---\r", "--- ---", "-- -", "---a", "---#", "---;", "\t---", "—", "\xe2\x80\x94", "--\x00", "ooo", "===", "\"---\""} {
		faultIs(t, "no mark", "S -> ;\n"+other+"\n", 1)
		faultIs(t, "no mark, without a byte 10", "S -> ;\n"+other, 1)
		faultIs(t, "no mark, and a text", "S -> ;\n"+other+"\na\n", 1)
		faultIs(t, "no mark ahead of one", "S -> ;\n"+other+"\n---\na\n", 1)
		faultIs(t, "no mark first", other+"\nS -> ;\n---\na\n", 1)
	}
	noFault(t, "a minus on its line", "S -> { 3\n-\n1 } ;\n---\n\n", "")
	faultIs(t, "a mark within a rule", "S -> { 3\n---\n1 } ;\n---\n\n", 1)
	faultIs(t, "texts alone", "a\nb\n", 1)
}

func TestPlacesOfTheMark(t *testing.T) {
	noFault(t, "the last line", "S -> ;\n---\n")
	noFault(t, "the last line without a byte 10", "S -> ;\n---")
	noFault(t, "an empty line behind it", "S -> ;\n---\n\n", "")
	noFault(t, "two empty lines behind it", "S -> ;\n---\n\n\n", "", "")
	noFault(t, "an empty line ahead of a text", "S -> ;\n---\n\na", "", "a")
	noFault(t, "an empty line behind a text", "S -> ;\n---\na\n\n", "a", "")
	noFault(t, "an empty line ahead of it", "S -> ;\n\n---\na", "a")
	noFault(t, "twice", "S -> ;\n---\n---\n", "---")
	noFault(t, "twice without a byte 10", "S -> ;\n---\n---", "---")
	noFault(t, "thrice", "S -> ;\n---\na\n---\n---\nb", "a", "---", "---", "b")
	noFault(t, "what looks like one behind it", "S -> ;\n---\n--\n----\n ---\n--- \n---\r\n", "--", "----", " ---", "--- ", "---\r")
	for _, script := range []string{"---", "---\n", "---\na", "---\na\n", "---\nS -> ;\n", "---\nS -> ;\n---\na\n", "---\n---\n", "---\n---", "---\n" + strings.Repeat("a\n", 21), "---\naaaaaaaaaaaaa\n"} {
		faultIs(t, "the first line", script, 1)
	}
	for _, head := range []string{"\n", "\n\n", " \n", "#\n", "# S -> ;\n"} {
		faultIs(t, "no rule ahead of it", head+"---\na\n", 1)
		faultIs(t, "no rule, and no mark", head, 1)
	}
	faultIs(t, "nothing", "", 1)
	faultIs(t, "an empty line", "\n", 1)
	faultIs(t, "a blank", " ", 1)
}

func wrongScripts() []string {
	return []string{
		"x", "S", "S -> a ;", "S -> \"a\"", "S -> \"A\" ;", "S ->", "-> ;", ";", "S -> ; ;", "S -> T ;", "S -> \"aaaaaaaaa\" ;", "S -> [z-a] ;", "S -> { } ;", "S -> { n } ;", "S -> ( ;", "S -> ) ;",
		"S(n) -> ;", "S() -> ;", "S -> S(1) ;", "S -> ; S -> ;", "S -> ; T(b,a) -> ;", "S -> ; x0 -> ;", "x1 -> ;", "S -> n:S { n } n:S ;", "S -> ( n:S ) { n } ;", "S -> \"a\"* ;", "Sevenxx -> ;", "S -> { 100 } ;",
		"S -> " + strings.Repeat("| ", 8) + ";", "S -> " + strings.Repeat("\"a\" ", 9) + ";", "S -> \"a\n\" ;", "S -> [a-\nz] ;", "\xff", "S -> \xff ;", "S -> ; \x00", allBytes()[11:], mixedText(100), mixedText(1500), strings.Repeat("S -> ;", 200),
	}
}

func TestWrongScripts(t *testing.T) {
	for _, grammar := range wrongScripts() {
		faultIs(t, "a wrong grammar alone", grammar, 1)
		faultIs(t, "a wrong grammar, and a byte 10", grammar[:min(len(grammar), 1499)]+"\n", 1)
		if len(grammar) > 1400 {
			continue
		}
		faultIs(t, "a wrong grammar, and a mark", grammar+"\n---", 1)
		faultIs(t, "a wrong grammar, and texts", grammar+"\n---\na\n\n", 1)
		faultIs(t, "a wrong grammar, and a text that is too long", grammar+"\n---\naaaaaaaaaaaaa\n", 1)
		faultIs(t, "a wrong grammar, and too many texts", grammar+"\n---\n"+strings.Repeat("\n", 22), 1)
		faultIs(t, "a wrong grammar behind a right one", rowScript+grammar+"\n---\na\n", 1)
	}
	// A surface that is read is made plain: there is none that is read, and that Flatten refuses.
	for _, grammar := range []string{rowScript, pairScript, lengthScript, opsScript} {
		surface, ok := impl.ReadSurface(grammar)
		if _, right := impl.Flatten(surface); !ok || !right {
			t.Errorf("%q is refused", grammar)
		}
		noFault(t, "right", grammar+"---\na\n", "a")
	}
}

func TestAsManyBytesAsAScriptMayHave(t *testing.T) {
	for length := 1490; length < 1510; length++ {
		want := func(fault int) int {
			if length > 1500 {
				return -1
			}
			return fault
		}
		padded := func(head, more string) string { return (head + strings.Repeat(more, length))[:length] }
		faultIs(t, "too many texts", padded("S -> ;\n---\n", "\n"), want(23))
		faultIs(t, "too many long texts", padded("S -> ;\n---\n", "aaaaaaaaaaaa\n"), want(23))
		faultIs(t, "a text that is too long", padded("S -> ;\n---\n\n", "a"), want(4))
		faultIs(t, "a wrong grammar", padded("S -> \n---\n", "a\n"), want(1))
		faultIs(t, "a great grammar", padded("S -> ;\n", " "), want(1))
		faultIs(t, "a great grammar with a mark", strings.Repeat(" ", length-11)+"S -> ;\n---\n", want(1))
		faultIs(t, "bytes of no use", padded("", "\x00\xff"), want(1))
	}
	for _, length := range []int{1501, 2000, 20000, 2000000} {
		faultIs(t, "far too long", "S -> ;\n---\n"+strings.Repeat("\n", length), -1)
		faultIs(t, "far too long", strings.Repeat("x", length), -1)
	}
}

// A grammar may have 600 bytes, with the byte 10 of its last line.
func TestAsManyBytesAsItsGrammarMayHave(t *testing.T) {
	for length := 590; length < 610; length++ {
		grammar := strings.Repeat(" ", length-7) + "S -> ;\n"
		if length > 600 {
			faultIs(t, "too great", grammar+"---\na\n", 1)
			faultIs(t, "too great, without a mark", grammar, 1)
			faultIs(t, "too great with the byte 10 that is missing", grammar[:length-1], 1)
			continue
		}
		noFault(t, "great", grammar+"---\na\n", "a")
		faultIs(t, "without a mark", grammar, 2)
		faultIs(t, "without a mark and a byte 10", grammar[:length-1], 2)
	}
	texts := slices.Repeat([]string{strings.Repeat("a", 12)}, 20)
	noFault(t, "as great as all may be", strings.Repeat(" ", 600-len(rowScript))+rowScript+"---\n"+strings.Join(texts, "\n")+"\n", texts...)
}

// someScript is what is shown of a surface, and texts, some of which are too long.
func someScript(next func(n int) int) string {
	shown, _ := impl.ShowSurface(smallSurface(next))
	script := shown
	if next(8) > 0 {
		script += "---\n"
	}
	for range next(6) * next(5) {
		length := next(5)
		if next(40) == 0 {
			length = 9 + next(6)
		}
		script += mixedOf("ab1", next, length) + "\n"
	}
	if next(3) == 0 {
		script = strings.TrimSuffix(script, "\n")
	}
	return script
}

// spoilScript moves, doubles or drops some of its bytes or lines.
func spoilScript(next func(n int) int, script string) string {
	lines := strings.SplitAfter(script, "\n")
	at := next(len(lines))
	switch next(6) {
	case 0:
		lines = slices.Delete(lines, at, at+1)
	case 1:
		lines = slices.Insert(lines, at, []string{"---\n", "\n", "----\n", "#\n", " ---\n", "--\n"}[next(6)])
	case 2:
		lines = slices.Insert(lines, at, lines[next(len(lines))])
	case 3:
		lines[at] = strings.TrimSuffix(lines[at], "\n")
	case 4:
		if from := next(len(script) + 1); from < len(script) {
			return withByte(script, from, "\n-#a;|\" \x00\xff"[next(10)])
		}
	case 5:
		lines[0], lines[at] = lines[at], lines[0]
	}
	return strings.Join(lines, "")
}

func TestScriptsOfManySeeds(t *testing.T) {
	t.Parallel()
	right, taken, faults := 0, 0, map[int]int{}
	for seed := range 700 {
		next := seeded(seed)
		script := someScript(next)
		for range 4 {
			g, texts, fault := checkScript(t, fmt.Sprint("seed ", seed), script)
			faults[min(fault, 2)]++
			right += oneOf(fault == 0)
			for _, text := range texts {
				taken += oneOf(impl.Accepts(g, text))
			}
			script = spoilScript(next, script)
		}
	}
	if right < 1000 || taken < 2000 || faults[1] < 1000 || faults[2] < 150 {
		t.Errorf("%d right, %d accepted, faults %v", right, taken, faults)
	}
}

// The slow ways of the chapters before read and flatten, too.
func TestScriptsReadSlowly(t *testing.T) {
	for seed := range 400 {
		script := someScript(seeded(seed))
		head, _, parted := strings.Cut("\n"+script, "\n---")
		surface, ok := slowReadSurface(head[1:] + "\n")
		g, _, fault := checkScript(t, fmt.Sprint("seed ", seed), script)
		if ok == (fault == 1) {
			t.Fatalf("seed %d: slowly read %v, and the fault is %d", seed, ok, fault)
		}
		if want, right := slowFlatten(surface); parted && fault == 0 && (!right || plainPicture(want) != plainPicture(g)) {
			t.Fatalf("seed %d: %q is read as\n%snot\n%s", seed, script, plainPicture(g), plainPicture(want))
		}
	}
}

// All short scripts over few lines.
func TestAllShortScripts(t *testing.T) {
	faults := map[int]int{}
	lines := []string{"S -> ;", "---", "", "a", "aaaaaaaaaaaaa", "T -> S ;"}
	textsOf("012345", 4, func(row string) {
		script := ""
		for _, at := range []byte(row) {
			script += lines[at-'0'] + "\n"
		}
		_, _, fault := checkScript(t, row, script)
		checkScript(t, row+", without a byte 10", strings.TrimSuffix(script, "\n"))
		faults[fault]++
	})
	if faults[0] < 50 || faults[1] < 1000 || faults[2] < 1 || faults[3] < 10 || faults[4] < 10 || faults[5] < 3 {
		t.Errorf("faults %v", faults)
	}
	// Of few bytes, too.
	textsOf("-\na", 7, func(tail string) { checkScript(t, "few bytes", "S -> ;\n"+tail) })
}

// scriptApart reads from bytes that are written over afterwards.
func scriptApart(t *testing.T, what, plain string) {
	t.Helper()
	bytes := []byte(plain)
	script := unsafe.String(unsafe.SliceData(bytes), len(bytes))
	g, texts, fault := impl.ReadScript(script)
	again, textsAgain, _ := impl.ReadScript(script)
	told := impl.Console(script)
	lists, words := grammarStretches(g)
	others, otherWords := grammarStretches(again)
	lists, others = append(lists, listStretch(texts)), append(others, listStretch(textsAgain))
	for _, text := range append(slices.Clone(texts), told) {
		words = append(words, textStretch(text))
	}
	for _, text := range textsAgain {
		otherWords = append(otherWords, textStretch(text))
	}
	checkApart(t, what, words, append(otherWords, textStretch(script)))
	checkApart(t, what, lists, append(others, textStretch(script)))
	checkEachApart(t, what, lists)
	if string(bytes) != plain {
		t.Fatalf("%s: an argument is changed", what)
	}
	for i := range bytes {
		bytes[i] = 'x'
	}
	want, wantTexts, wantFault := slowReadScript(plain)
	if fault != wantFault || !slices.Equal(texts, wantTexts) || plainPicture(g) != plainPicture(want) || told != impl.Console(plain) {
		t.Fatalf("%s: what was read hangs on the bytes that it was read from", what)
	}
}

// answerApart asks of a grammar in memory of its own, with spare room.
func answerApart(t *testing.T, what string, plain impl.Grammar, text string) {
	t.Helper()
	g := roomyGrammar(plain)
	before := grammarPicture(g)
	_, texts := grammarStretches(g)
	bytes := []byte(text)
	argument := unsafe.String(unsafe.SliceData(bytes), len(bytes))
	told := impl.Answer(g, argument)
	checkApart(t, what, []stretch{textStretch(told)}, append(texts, textStretch(argument)))
	if grammarPicture(g) != before || string(bytes) != text {
		t.Fatalf("%s: an argument is changed", what)
	}
	if want := slowAnswer(plain, text); told != want {
		t.Fatalf("%s: with spare room behind its lists Answer of %q is %q, not %q", what, text, told, want)
	}
}

func TestConsolesShareNoMemory(t *testing.T) {
	for what, script := range map[string]string{
		"a row": rowScript + "---\naa\n\nb\n", "a length": lengthScript + "---\n2ab\n0", "operators": opsScript + "---\n1+2^3\n1\n(1)", "nothing": "", "no mark": rowScript, "too long": rowScript + "---\naaaaaaaaaaaaa",
		"no texts": rowScript + "---", "twenty": pairScript + "---\n" + strings.Join(manyTexts(20), "\n") + "\n", "far too long": strings.Repeat("a", 2000), "too great": wideScript(4) + "---\n\na",
	} {
		scriptApart(t, what, script)
	}
	for seed := range 200 {
		scriptApart(t, fmt.Sprint("seed ", seed), someScript(seeded(seed)))
	}
	grammars := rightGrammars()
	for what, g := range wrongGrammars() {
		grammars["wrong: "+what] = g
	}
	for what, g := range oddGrammars() {
		grammars["odd: "+what] = g
	}
	for what, g := range grammars {
		for _, text := range []string{"", "a", "ab", "a1", "1ab", "b"} {
			answerApart(t, what, g, text)
		}
	}
}

func TestConsolesAnswerTheSameAgain(t *testing.T) {
	scripts := []string{rowScript + "---\naa\nb\n", pairScript + "---\naaa\n\n", circleScript + "---\na", "x", "S -> ;", rowScript + "---\n" + strings.Repeat("a\n", 21), strings.Repeat("a", 1501), lengthScript + "---\n2ab"}
	told := []string{}
	for _, script := range scripts {
		told = append(told, impl.Console(script))
	}
	for range 30 {
		for i, script := range scripts {
			g, texts, _ := checkScript(t, "again", script)
			if got := impl.Console(script); got != told[i] {
				t.Fatalf("Console(%q) = %q, and then %q", script, told[i], got)
			}
			// What was answered may be written over.
			clear(texts)
			for j := range g.Rules {
				g.Rules[j].Name = "over"
				clear(g.Rules[j].Alts)
			}
		}
	}
	// From several sides at once, too.
	var all sync.WaitGroup
	for side := range 8 {
		all.Go(func() {
			for i := range 20 * len(scripts) {
				at := (i + side) % len(scripts)
				if got := impl.Console(scripts[at]); got != told[at] {
					t.Errorf("Console(%q) = %q beside others, not %q", scripts[at], got, told[at])
				}
			}
		})
	}
	all.Wait()
}
