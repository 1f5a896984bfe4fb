package tests

import (
	"fmt"
	"slices"
	"strings"
	"testing"
	"unsafe"

	"loop.example/g00243/impl"
)

// relaxed has no SyIf, no Params, no Args and no Binds: what its rules take is what those of the grammar would, if each SyIf went on and Args were no matter.
func relaxed(g impl.Grammar) impl.Grammar {
	loose := impl.Grammar{}
	for _, rule := range g.Rules {
		other := impl.Rule{Name: rule.Name}
		for _, alt := range rule.Alts {
			syms := []impl.Sym{}
			for _, sym := range alt.Syms {
				if sym.Kind != impl.SyIf {
					syms = append(syms, impl.Sym{Kind: sym.Kind, Text: sym.Text})
				}
			}
			other.Alts = append(other.Alts, impl.Alt{Syms: syms})
		}
		loose.Rules = append(loose.Rules, other)
	}
	return loose
}

// slowTaken goes by trees, the lowest first: of each rule it has one short text for each byte with which what trees of at most this height take begins, and the empty one under "".
func slowTaken(g impl.Grammar, height int) []map[string]string {
	taken := make([]map[string]string, len(g.Rules))
	if height == 0 {
		return taken
	}
	lower := slowTaken(g, height-1)
	for i, rule := range g.Rules {
		taken[i] = map[string]string{}
		for _, alt := range rule.Alts {
			for _, text := range slowRow(g, alt, lower) {
				keepShort(taken[i], text)
			}
		}
	}
	return taken
}

func slowRow(g impl.Grammar, alt impl.Alt, lower []map[string]string) map[string]string {
	row := map[string]string{"": ""}
	for _, sym := range alt.Syms {
		longer := map[string]string{}
		for _, text := range row {
			for _, more := range slowTexts(g, sym, lower) {
				keepShort(longer, text+more)
			}
		}
		row = longer
	}
	return row
}

func slowTexts(g impl.Grammar, sym impl.Sym, lower []map[string]string) []string {
	texts := []string{}
	switch sym.Kind {
	case impl.SyText:
		texts = append(texts, sym.Text)
	case impl.SySet:
		texts = strings.Split(slowSetBytes(sym.Text), "")
	case impl.SyCall:
		for i, rule := range g.Rules {
			if rule.Name == sym.Text {
				for _, text := range lower[i] {
					texts = append(texts, text)
				}
			}
		}
	case impl.SyIf:
		texts = append(texts, "")
	}
	return texts
}

// keepShort keeps of the texts that begin alike the shortest one, and no more of it than tells that it is too long to be run.
func keepShort(texts map[string]string, text string) {
	text = text[:min(impl.MaxText9+1, len(text))]
	begin := text[:min(1, len(text))]
	if old, there := texts[begin]; !there || len(text) < len(old) || len(text) == len(old) && text < old {
		texts[begin] = text
	}
}

// slowFirsts has of each rule the bytes and, ahead of them, "~" when it may take nothing, and the texts for them. No tree for a byte need be higher than twice as many rules as there are: one way down to it, and beside that what is lowest.
func slowFirsts(g impl.Grammar) ([]string, []map[string]string) {
	taken := slowTaken(g, 2*len(g.Rules))
	told := []string{}
	for _, texts := range taken {
		bytes, nothing := []string{}, ""
		for begin := range texts {
			if begin == "" {
				nothing = "~"
			}
			bytes = append(bytes, begin)
		}
		slices.Sort(bytes)
		told = append(told, nothing+strings.Join(bytes, ""))
	}
	return told, taken
}

// toldOf tells of each rule what slowFirsts does, as the program has it.
func toldOf(g impl.Grammar) []string {
	told, names := []string{}, impl.Nullable(g)
	for i, rule := range g.Rules {
		nothing := ""
		if slices.Contains(names, rule.Name) {
			nothing = "~"
		}
		told = append(told, nothing+impl.FirstBytes(g, i))
	}
	return told
}

// checkFirsts holds both functions against the slow way of a right grammar, and the bytes against a text for each that is really taken once SyIfs and Args are left out. It tells how many were run so.
func checkFirsts(t *testing.T, what string, g impl.Grammar) int {
	t.Helper()
	checkGrammar(t, what, g)
	want, texts := slowFirsts(g)
	if got := toldOf(g); !slices.Equal(got, want) {
		t.Fatalf("%s: what the rules of\n%s\nmay begin with is %q, not %q", what, plainPicture(g), got, want)
	}
	names := []string{}
	for i, rule := range g.Rules {
		if strings.HasPrefix(want[i], "~") {
			names = append(names, rule.Name)
		}
	}
	if got := impl.Nullable(g); !slices.Equal(got, names) {
		t.Fatalf("%s: Nullable of\n%s\nis %q, not %q", what, plainPicture(g), got, names)
	}
	noFirsts(t, what, g, leastInt, -1, len(g.Rules), greatestInt)
	loose, run := relaxed(g), 0
	for i, rule := range g.Rules {
		for _, text := range texts[i] {
			c, ok := impl.RunGoal(loose, text, rule.Name, nil, 0)
			if ok && !slices.Contains(c.Goals[0].Ends, len(text)) {
				t.Fatalf("%s: %s of\n%s\ndoes not take %q", what, rule.Name, plainPicture(loose), text)
			}
			run += oneOf(ok)
		}
	}
	return run
}

// noFirsts wants no bytes of these rules.
func noFirsts(t *testing.T, what string, g impl.Grammar, rules ...int) {
	t.Helper()
	for _, rule := range rules {
		if got := impl.FirstBytes(g, rule); got != "" {
			t.Fatalf("%s: FirstBytes(%v, %d) = %q", what, g, rule, got)
		}
	}
}

// nothingTold wants neither Names nor bytes of a grammar that is not right.
func nothingTold(t *testing.T, what string, g impl.Grammar) {
	t.Helper()
	refuseGrammar(t, what, g)
	if got := impl.Nullable(g); len(got) > 0 {
		t.Fatalf("%s: Nullable(%v) = %q", what, g, got)
	}
	noFirsts(t, what, g, leastInt, -2, -1, 0, 1, 2, len(g.Rules)-1, len(g.Rules), greatestInt)
}

// firstsAre wants these bytes of each rule, with "~" ahead when it may take nothing.
func firstsAre(t *testing.T, what string, g impl.Grammar, want ...string) {
	t.Helper()
	if got := toldOf(g); !slices.Equal(got, want) {
		t.Errorf("%s: what the rules of\n%s\nmay begin with is %q, not %q", what, plainPicture(g), got, want)
	}
	checkFirsts(t, what, g)
	checkBegins(t, what, relaxed(g), "ab1", 3)
}

// checkBegins runs each rule over all texts of these letters, up to so long, with small Args: what is taken begins with one of the bytes, or is nothing where the rule is one of the Names. It tells how often something was taken, and how often nothing.
func checkBegins(t *testing.T, what string, g impl.Grammar, letters string, longest int) (int, int) {
	t.Helper()
	told, some, none := toldOf(g), 0, 0
	textsOf(letters, longest, func(text string) {
		for i, rule := range g.Rules {
			for _, args := range smallArgs(len(rule.Params)) {
				for _, end := range impl.EndsOf(g, text, rule.Name, args, 0) {
					begin := "~"
					if end > 0 {
						begin = text[:1]
					}
					if !strings.Contains(told[i], begin) {
						t.Fatalf("%s: %s%v of\n%s\ntakes %q, and may begin with %q", what, rule.Name, args, plainPicture(g), text[:end], told[i])
					}
					some += oneOf(end > 0)
					none += oneOf(end == 0)
				}
			}
		}
	})
	return some, none
}

// firsts reads a grammar with groups, and wants these bytes of each of its plain rules.
func firsts(t *testing.T, written string, want ...string) {
	t.Helper()
	firstsAre(t, written, flat(t, written), want...)
}

func TestFirstsOfOneRule(t *testing.T) {
	s, a, b := symCall("S"), symText("a"), symText("b")
	one := func(what, want string, alts ...impl.Alt) {
		t.Helper()
		firstsAre(t, what, grammarOf(ruleOf("S", "", alts...)), want)
	}
	one("no Sym", "~", altOf())
	one("a SyText", "a", altOf(a))
	one("a long SyText", "b", altOf(symText("baaaaaab")))
	one("two SyTexts", "a", altOf(a, b))
	one("a SySet", "abc", altOf(symSet("a-c")))
	one("a SySet, then a SyText", "0123456789", altOf(symSet("0-9"), a))
	one("an SyIf", "~", altOf(symIf(number(1))))
	one("eight SyIfs", "~", altOf(slices.Repeat([]impl.Sym{symIf(number(1))}, 8)...))
	one("an SyIf ahead", "b", altOf(symIf(number(1)), b, a))
	one("an SyIf between", "b", altOf(b, symIf(number(1)), a))
	one("an SyIf behind", "b", altOf(b, symIf(number(1))))
	one("nothing, or a", "~a", altOf(), altOf(a))
	one("a, or nothing", "~a", altOf(a), altOf())
	one("several Alts", "01ab", altOf(b, a), altOf(symText("1")), altOf(a, a), altOf(symSet("0")))
	one("Alts that begin alike", "ab", altOf(a), altOf(a, b), altOf(symSet("ab"), s), altOf(b, b))
	one("within", "~a", altOf(a, s, b), altOf())
	one("at the right", "ab", altOf(a, s), altOf(b))
	one("at the left", "b", altOf(s, a), altOf(b))
	one("at the left, or nothing", "~a", altOf(s, a), altOf())
	one("at the left, the Alt that ends first", "~a", altOf(), altOf(s, a))
	one("at the left, twice", "~ab", altOf(s, s, b), altOf(), altOf(s, a))
	one("at the left, and not nothing", "a", altOf(s, s, b), altOf(a))
	one("both sides", "~1a", altOf(s, symText("1"), s), altOf(a), altOf())
	one("itself alone, or nothing", "~", altOf(s), altOf())
	one("itself alone, or a", "a", altOf(s), altOf(a))
}

func TestFirstsOfSeveralRules(t *testing.T) {
	firsts(t, `S -> T U ; T -> "a" ; U -> "b" ;`, "a", "a", "b")
	firsts(t, `S -> T U ; T -> "a" | ; U -> "b" ;`, "ab", "~a", "b")
	firsts(t, `S -> T U ; T -> "a" | ; U -> "b" | ;`, "~ab", "~a", "~b")
	firsts(t, `S -> T U ; T -> "a" ; U -> "b" | ;`, "a", "a", "~b")
	firsts(t, `S -> T T T "1" ; T -> "a" | ;`, "1a", "~a")
	firsts(t, `S -> T "1" U ; T -> ; U -> [a-c] | ;`, "1", "~", "~abc")
	firsts(t, `S -> T U V "z" | "y" ; T -> | "a" ; U -> { 0 } ; V -> U T | "b" ;`, "abyz", "~a", "~", "~ab")
	firsts(t, `S -> T ; T -> U ; U -> V ; V -> "b" | ;`, "~b", "~b", "~b", "~b")
	firsts(t, `V -> "b" | ; U -> V ; T -> U ; S -> T ;`, "~b", "~b", "~b", "~b")
	firsts(t, `S -> "(" S ")" | E ; E -> E "+" F | F ; F -> [0-9] | "(" E ")" ;`, "(0123456789", "(0123456789", "(0123456789")
	firsts(t, `S -> ( "a" | "b" )* "1" ;`, "1ab", "~ab")
	firsts(t, `S -> ( "a" | "b" )+ "1" ;`, "ab", "ab")
	firsts(t, `S -> ( "a" | "b" )? "1" ;`, "1ab", "~ab")
	firsts(t, `S -> ( | "b" )+ ( "a" )* ;`, "~ab", "~b", "~a")
	firsts(t, `S -> ( ( "a" )* ( "b" )? )+ "1" ;`, "1ab", "~ab", "~a", "~b")
	firsts(t, `S -> "a" T ; T -> ; X -> "1" | T ;`, "a", "~", "~1")
}

// Rules that call one another, at their left, in circles, and what is nothing only by way of these.
func TestFirstsOfCircles(t *testing.T) {
	firsts(t, `S -> T | "a" ; T -> S | "b" ;`, "ab", "ab")
	firsts(t, `S -> T ; T -> U ; U -> S | "1" ;`, "1", "1", "1")
	firsts(t, `S -> T "a" ; T -> U "b" | ; U -> S "1" | "z" ;`, "az", "~az", "az")
	firsts(t, `S -> T "a" | "1" ; T -> S "b" | ;`, "1a", "~1a")
	firsts(t, `S -> T U ; T -> U | ; U -> T | ;`, "~", "~", "~")
	firsts(t, `S -> T U ; T -> U S | "a" ; U -> T T | ;`, "a", "a", "~a")
	firsts(t, `S -> S T | T S | ; T -> S S "b" | "a" ;`, "~ab", "ab")
	firsts(t, `S -> T S | "a" ; T -> S T | "b" | ;`, "ab", "~ab")
	firsts(t, `S -> A A A ; A -> B | C ; B -> C B | "b" ; C -> B C | A "1" | ;`, "~1b", "~1b", "1b", "~1b")
}

// What never comes to an end takes nothing ever, and so does what can not do without it.
func TestWhatNeverEndsBeginsWithNothing(t *testing.T) {
	firsts(t, `S -> S ;`, "")
	firsts(t, `S -> S S ;`, "")
	firsts(t, `S -> S "a" ;`, "")
	firsts(t, `S -> "a" S ;`, "")
	firsts(t, `S -> "a" S "b" | [0-9] S | S S ;`, "")
	firsts(t, `S -> T ; T -> S ;`, "", "")
	firsts(t, `S -> "a" T ; T -> "b" S ;`, "", "")
	firsts(t, `S -> "a" N | "b" ; N -> N ;`, "b", "")
	firsts(t, `S -> N "a" | "b" ; N -> N ;`, "b", "")
	firsts(t, `S -> N | ; N -> "a" N ;`, "~", "")
	firsts(t, `S -> "a" T N | T "1" ; T -> "b" | ; N -> "z" M ; M -> N T ;`, "1b", "~b", "", "")
	firsts(t, `S -> T N ; T -> ; N -> N | { 1 } N ;`, "", "~", "")
	firsts(t, `S -> "a" T | "b" U ; T -> "1" T ; U -> T | "0" ;`, "b", "", "0")
	// An end that comes late: the Alt counts as soon as all that it calls comes to one.
	firsts(t, `S -> "a" T ; T -> U | "1" T ; U -> V S | V ; V -> "b" V | "z" ;`, "a", "1bz", "bz", "bz")
	firsts(t, `S -> T "a" U ; T -> ; U -> V ; V -> W ; W -> "b" | U ;`, "a", "~", "b", "b", "b")
}

// Many rules between, in the order of rules and against it: the last one counts at the first.
func TestFirstsOfRulesInARow(t *testing.T) {
	for _, count := range []int{1, 2, 3, 7, 29, 30} {
		for name, end := range map[string]impl.Alt{"~": altOf(), "z": altOf(symText("z")), "xyz": altOf(symSet("x-z"), symText("a")), "": altOf(symCall("R0"))} {
			rules, against, beside := []impl.Rule{}, []impl.Rule{}, []string{}
			for i := range count {
				alt := end
				if i+1 < count {
					alt = altOf(symCall(fmt.Sprint("R", i+1)))
				}
				rules = append(rules, ruleOf(fmt.Sprint("R", i), "", alt))
				against = slices.Insert(against, 0, rules[i])
				beside = append(beside, name)
			}
			what := fmt.Sprint(count, " rules in a row, to ", name)
			firstsAre(t, what, impl.Grammar{Rules: rules}, beside...)
			firstsAre(t, what+", against the order", impl.Grammar{Rules: against}, beside...)
		}
	}
	g := manyRules(30)
	firstsAre(t, "30 rules", g, slices.Repeat([]string{"a"}, 30)...)
	g.Rules[29].Alts = append(g.Rules[29].Alts, altOf(), altOf(symText("b")))
	firstsAre(t, "30 rules, the last one nothing", g, slices.Repeat([]string{"~ab"}, 30)...)
	nothingTold(t, "31 rules", manyRules(31))
}

// Each rule has a byte of its own, and is nothing only as far as the one behind it is.
func TestFirstsGatheredOnTheWay(t *testing.T) {
	g, want := impl.Grammar{}, []string{}
	letters := "abcdefghijklmnopqrstuvwxyz0123"
	for i := range 30 {
		alts := []impl.Alt{altOf(symText(letters[i : i+1]))}
		if i+1 < 30 {
			alts = append(alts, altOf(symCall(fmt.Sprint("R", i+1)), symText("9")))
		}
		g.Rules = append(g.Rules, ruleOf(fmt.Sprint("R", i), "", alts...))
		bytes := strings.Split(letters[i:], "")
		slices.Sort(bytes)
		want = append(want, strings.Join(bytes, ""))
	}
	firstsAre(t, "a byte each", g, want...)
	g.Rules[29].Alts = append(g.Rules[29].Alts, altOf())
	for i := range want {
		// What is behind the last one counts ahead of it, too, once that is nothing.
		if i < 29 && !strings.Contains(want[i], "9") {
			bytes := strings.Split(want[i]+"9", "")
			slices.Sort(bytes)
			want[i] = strings.Join(bytes, "")
		}
	}
	want[29] = "~" + want[29]
	firstsAre(t, "a byte each, the last one nothing", g, want...)
}

func TestFirstsOfFullAlts(t *testing.T) {
	eight := func(sym impl.Sym) []impl.Sym { return slices.Repeat([]impl.Sym{sym}, 8) }
	row := func(last impl.Sym, ahead impl.Sym) impl.Alt { return altOf(append(eight(ahead)[:7], last)...) }
	more := []impl.Rule{ruleOf("N", "", altOf(), altOf(symText("n"))), ruleOf("E", "", altOf()), ruleOf("Z", "", altOf(symCall("Z")))}
	g := grammarOf(append([]impl.Rule{ruleOf("S", "", slices.Repeat([]impl.Alt{altOf(eight(symCall("E"))...)}, 8)...)}, more...)...)
	firstsAre(t, "8 Alts of 8 that are nothing", g, "~", "~n", "~", "")
	for at := range 8 {
		g.Rules[0].Alts[at] = row(symText(string("abcdefgh"[at])), symCall("E"))
	}
	firstsAre(t, "8 Alts of 8, a SyText each at the end", g, "abcdefgh", "~n", "~", "")
	for at := range 8 {
		g.Rules[0].Alts[at] = row(symText(string("abcdefgh"[at])), symCall("N"))
	}
	firstsAre(t, "8 Alts of 8, a SyText each behind what may be nothing", g, "abcdefghn", "~n", "~", "")
	for at := range 8 {
		syms := eight(symCall("E"))
		syms[at] = symText(string("hgfedcba"[at]))
		g.Rules[0].Alts[at] = altOf(syms...)
	}
	firstsAre(t, "8 Alts of 8, each with a SyText at another place", g, "abcdefgh", "~n", "~", "")
	for at := range 8 {
		g.Rules[0].Alts[at] = row(symCall("Z"), symText(string("abcdefgh"[at])))
	}
	firstsAre(t, "8 Alts of 8, none of which ends", g, "", "~n", "~", "")
	g.Rules[0].Alts[7] = row(symIf(number(0)), symCall("N"))
	firstsAre(t, "8 Alts of 8, of which the last one ends", g, "~n", "~n", "~", "")
	nine := grammarOf(ruleOf("S", "", slices.Repeat([]impl.Alt{altOf()}, 9)...))
	nothingTold(t, "9 Alts", nine)
	nothingTold(t, "9 Syms", grammarOf(ruleOf("S", "", altOf(append(eight(symText("a")), symText("a"))...))))
}

// Every byte that may be: all others, 0 and 255 among them, are none of a right grammar's.
func TestFirstsOfEachByte(t *testing.T) {
	for b := range 256 {
		byteText := string([]byte{byte(b)})
		set, text := grammarOf(ruleOf("S", "", altOf(symSet(byteText)))), grammarOf(ruleOf("S", "", altOf(symText(byteText))))
		if strings.Contains(setBytes, byteText) {
			firstsAre(t, "a set of one byte", set, byteText)
		} else {
			nothingTold(t, "a set of one byte", set)
		}
		if strings.Contains(symTextBytes, byteText) {
			firstsAre(t, "a text of one byte", text, byteText)
			firstsAre(t, "a text of eight bytes", grammarOf(ruleOf("S", "", altOf(symText(byteText+"abcdefg")))), byteText)
			firstsAre(t, "a byte behind", grammarOf(ruleOf("S", "", altOf(symText("ab"+byteText)))), "a")
		} else {
			nothingTold(t, "a text of one byte", text)
			nothingTold(t, "a byte behind", grammarOf(ruleOf("S", "", altOf(symText("ab"+byteText)))))
		}
	}
	for _, set := range rightSets() {
		firstsAre(t, "a set", grammarOf(ruleOf("S", "", altOf(symSet(set)))), slowSetBytes(set))
	}
	firstsAre(t, "all of a set", grammarOf(ruleOf("S", "", altOf(symSet("a-z0-9")), altOf(symSet("z5")))), "0123456789abcdefghijklmnopqrstuvwxyz")
}

func TestFirstsOfAllBytesAtOnce(t *testing.T) {
	g := grammarOf(ruleOf("S", "", altOf(symCall("T")), altOf(symCall("U")), altOf(symCall("V")), altOf(symSet("z0-9a-y"))))
	for i, name := range []string{"V", "U", "T"} {
		alts := []impl.Alt{}
		for _, b := range "=<>+-*^()[]:,;."[i*5 : i*5+5] {
			alts = append(alts, altOf(symText(string(b))))
		}
		g.Rules = append(g.Rules, ruleOf(name, "", alts...))
	}
	firstsAre(t, "all bytes", g, "()*+,-.0123456789:;<=>[]^abcdefghijklmnopqrstuvwxyz", "+-<=>", "()*[^", ",.:;]")
	g.Rules = append(g.Rules, ruleOf("W", "", altOf(symCall("S"), symCall("W")), altOf()))
	firstsAre(t, "all bytes, or nothing", g, "()*+,-.0123456789:;<=>[]^abcdefghijklmnopqrstuvwxyz", "+-<=>", "()*[^", ",.:;]", "~()*+,-.0123456789:;<=>[]^abcdefghijklmnopqrstuvwxyz")
}

// Whatever an SyIf asks and an Arg is, each SyIf goes on, and each call is of a goal that is there.
func TestSyIfsAndArgsAreNoMatter(t *testing.T) {
	over := exprOf(num(99), num(1), pair(impl.ExAdd, 0, 1))
	byNought := exprOf(num(1), num(0), pair(impl.ExDiv, 0, 1))
	below := exprOf(num(1), num(2), pair(impl.ExSub, 0, 1))
	for what, e := range map[string]impl.Expr{"0": number(0), "1": number(1), "99": number(99), "beyond 99": over, "by 0": byNought, "below 0": below, "beyond": beyondAbove(), "here": exprOf(hereNode())} {
		firstsAre(t, "SyIf "+what, grammarOf(ruleOf("S", "", altOf(symIf(e)))), "~")
		firstsAre(t, "SyIf ahead, "+what, grammarOf(ruleOf("S", "", altOf(symIf(e), symText("a")))), "a")
		firstsAre(t, "SyIf behind, "+what, grammarOf(ruleOf("S", "", altOf(symText("a"), symIf(e)), altOf(symIf(e), symIf(e)))), "~a")
		firstsAre(t, "Arg "+what, oneRule(altOf(symCall("N", e), symText("a"))), "a", "0123456789", "~")
		firstsAre(t, "Arg alone, "+what, oneRule(altOf(symCall("N", e))), "~", "0123456789", "~")
		firstsAre(t, "Arg behind, "+what, oneRule(altOf(symText("b"), symCall("N", e)), altOf(symBound("n", "D"), symCall("N", e))), "0123456789b", "0123456789", "~")
	}
	three := exprOf(named("a"), named("c"), pair(impl.ExLess, 0, 1))
	g := grammarOf(
		ruleOf("S", "", altOf(symBound("a", "P", number(1), number(2)), symCall("Q", asked("a"), asked("a"))), altOf(symCall("Q", number(0), over))),
		ruleOf("P", "a c", altOf(symIf(three), symCall("Q", asked("c"), asked("a"))), altOf(symText("p"), symCall("P", asked("a"), byNought)), altOf(symIf(number(0)))),
		ruleOf("Q", "a c", altOf(symIf(exprOf(named("a"), named("a"), pair(impl.ExLess, 0, 1))), symText("q")), altOf(symBound("b", "P", below, asked("a")), symIf(asked("b")), symText("x"))))
	firstsAre(t, "Params, Args and Binds", g, "pqx", "~pqx", "pqx")
	checkBegins(t, "Params, Args and Binds", g, "pqx", 3)
	firstsAre(t, "a length", lengthGrammar(), "0123456789", "0123456789", "~abcdefghijklmnopqrstuvwxyz")
	checkBegins(t, "a length", lengthGrammar(), "01a", 4)
	firstsAre(t, "operators", climbGrammar(), "(0123456789", "(0123456789", "(0123456789")
	checkBegins(t, "operators", climbGrammar(), "1+^(", 3)
}

// The Names are in the order of rules, whatever they are, and from whichever rule nothing came first.
func TestNullableIsInTheOrderOfRules(t *testing.T) {
	rules := []impl.Rule{
		ruleOf("Z", "", altOf(symCall("a"))), ruleOf("a", "", altOf(symCall("B"), symCall("m1"))), ruleOf("no", "", altOf(symText("a"))),
		ruleOf("B", "", altOf(symCall("m1"))), ruleOf("m1", "", altOf(symIf(number(0)))), ruleOf("A", "", altOf()),
	}
	for _, order := range []string{"012345", "543210", "425130", "301254", "154032", "053412"} {
		g, names := impl.Grammar{}, []string{}
		for _, place := range order {
			rule := rules[place-'0']
			g.Rules = append(g.Rules, rule)
			if rule.Name != "no" {
				names = append(names, rule.Name)
			}
		}
		checkFirsts(t, "in the order "+order, g)
		if got := impl.Nullable(g); !slices.Equal(got, names) {
			t.Errorf("in the order %s: Nullable is %q, not %q", order, got, names)
		}
	}
}

func TestFirstsOfNoRule(t *testing.T) {
	for what, g := range rightGrammars() {
		for _, rule := range []int{leastInt, leastInt + 1, -256, -30, -2, -1, len(g.Rules), len(g.Rules) + 1, 30, 256, 1 << 32, greatestInt - 1, greatestInt} {
			noFirsts(t, what, g, rule)
		}
		checkFirsts(t, what, g)
		checkBegins(t, what, relaxed(g), "ab1", 2)
	}
}

// eachWrong has a grammar for each thing that Chapter 6 asks, and one for several at once: were it not for that, nearly all would take an a.
func eachWrong() map[string]impl.Grammar {
	a := altOf(symText("a"))
	seven := strings.Fields("a b c d e f g")
	return map[string]impl.Grammar{
		"no Alts":               grammarOf(ruleOf("S", "")),
		"no Name":               grammarOf(ruleOf("", "", altOf(), a)),
		"a wrong Name":          grammarOf(ruleOf("1S", "", altOf(), a)),
		"a Name that is long":   grammarOf(ruleOf("Seven77", "", altOf(), a)),
		"a Name twice":          grammarOf(ruleOf("S", "", altOf(), a), ruleOf("T", "", a), ruleOf("T", "", a)),
		"Params down":           grammarOf(ruleOf("S", "", altOf(), a), ruleOf("T", "b a", a)),
		"a Param twice":         grammarOf(ruleOf("S", "", altOf(), a), ruleOf("T", "a a", a)),
		"a wrong Param":         grammarOf(ruleOf("S", "", altOf(), a), ruleOf("T", "A", a)),
		"seven Params":          grammarOf(ruleOf("S", "", altOf(), a), impl.Rule{Name: "T", Params: seven, Alts: []impl.Alt{a}}),
		"no text":               grammarOf(ruleOf("S", "", a, altOf(symText("")))),
		"nine bytes":            grammarOf(ruleOf("S", "", a, altOf(symText("aaaaaaaaa")))),
		"a text that is bound":  grammarOf(ruleOf("S", "", a, altOf(impl.Sym{Kind: impl.SyText, Text: "a", Bind: "b"}))),
		"a set with an Arg":     grammarOf(ruleOf("S", "", a, altOf(impl.Sym{Kind: impl.SySet, Text: "a", Args: numbers(1)}))),
		"a set down":            grammarOf(ruleOf("S", "", a, altOf(symSet("z-a")))),
		"an empty set":          grammarOf(ruleOf("S", "", a, altOf(symSet("")))),
		"an Arg more":           oneRule(a, altOf(symCall("D", number(1)))),
		"a wrong Bind":          oneRule(a, altOf(symBound("B", "D"))),
		"bound twice":           oneRule(a, altOf(symBound("b", "D"), symBound("b", "D"))),
		"too many bound":        paramRule("a b c d e f", altOf(symBound("g", "D"))),
		"an SyIf that is named": grammarOf(ruleOf("S", "", a, altOf(impl.Sym{Kind: impl.SyIf, Text: "S", Args: numbers(1)}))),
		"an SyIf of two":        grammarOf(ruleOf("S", "", a, altOf(impl.Sym{Kind: impl.SyIf, Args: numbers(2)}))),
		"asked ahead":           oneRule(a, altOf(symCall("N", asked("b")), symBound("b", "D"))),
		"a Kind beyond":         grammarOf(ruleOf("S", "", a, altOf(impl.Sym{Kind: 5, Text: "a"}))),
		"several":               grammarOf(ruleOf("S", "n", a, altOf(symSet("z-a"))), ruleOf("S", "", altOf(symCall("None"), impl.Sym{Kind: -1}))),
	}
}

// Each thing that Chapter 6 asks, and several at once: the other rules' answers go, too.
func TestWrongGrammarsBeginWithNothing(t *testing.T) {
	grammars := wrongGrammars()
	for what, g := range oddGrammars() {
		grammars["odd: "+what] = g
	}
	for what, g := range grammars {
		if !slowGrammarOk(g) {
			nothingTold(t, what, g)
		}
	}
	for what, g := range eachWrong() {
		nothingTold(t, what, g)
	}
}

// spelt has each SyText as one SyText for each byte, as far as there is room.
func spelt(g impl.Grammar) impl.Grammar {
	other := impl.Grammar{}
	for _, rule := range g.Rules {
		turned := impl.Rule{Name: rule.Name, Params: rule.Params}
		for _, alt := range rule.Alts {
			syms := []impl.Sym{}
			for i, sym := range alt.Syms {
				if sym.Kind == impl.SyText && len(sym.Text) > 1 && len(syms)+2+len(alt.Syms)-i-1 <= 8 {
					syms = append(syms, symText(sym.Text[:1]), symText(sym.Text[1:]))
					continue
				}
				syms = append(syms, sym)
			}
			turned.Alts = append(turned.Alts, impl.Alt{Syms: syms})
		}
		other.Rules = append(other.Rules, turned)
	}
	return other
}

// reversed has all Alts in the other order, and each rule that is none of the first, too.
func reversed(g impl.Grammar) impl.Grammar {
	other := impl.Grammar{Rules: slices.Clone(g.Rules)}
	slices.Reverse(other.Rules[1:])
	for i, rule := range other.Rules {
		other.Rules[i].Alts = slices.Clone(rule.Alts)
		slices.Reverse(other.Rules[i].Alts)
	}
	return other
}

// sameFirsts wants the rules of the same Names to begin alike, in whichever order they stand.
func sameFirsts(t *testing.T, what string, g, other impl.Grammar) {
	t.Helper()
	checkGrammar(t, what, other)
	told, again := toldOf(g), toldOf(other)
	for i, rule := range g.Rules {
		if at := impl.RuleAt(other, rule.Name); at >= 0 && again[at] != told[i] {
			t.Fatalf("%s: %s begins with %q, and of\n%s\nwith %q", what, rule.Name, told[i], plainPicture(other), again[at])
		}
	}
}

// What is no matter: how SyTexts are cut, the order of Alts and rules, what is not come to, what SyIfs ask, Args and Params.
func checkNoMatter(t *testing.T, what string, g impl.Grammar) {
	t.Helper()
	sameFirsts(t, what+", relaxed", g, relaxed(g))
	sameFirsts(t, what+", spelt", g, spelt(g))
	sameFirsts(t, what+", reversed", g, reversed(g))
	sameFirsts(t, what+", trimmed", g, impl.Trimmed(g))
	longer := impl.Grammar{Rules: append(slices.Clone(g.Rules), ruleOf("More", "", altOf(symCall(g.Rules[0].Name))))}
	sameFirsts(t, what+", with a rule more", g, longer)
	if told := toldOf(longer); told[len(g.Rules)] != told[0] {
		t.Fatalf("%s: a rule that calls the first one begins with %q, not %q", what, told[len(g.Rules)], told[0])
	}
	renamed, ok := impl.Renamed(g, g.Rules[0].Name, "Other")
	if told := toldOf(renamed); !ok || !slices.Equal(told, toldOf(g)) {
		t.Fatalf("%s: renamed, the rules begin with %q", what, told)
	}
}

func TestWhatIsNoMatterToFirsts(t *testing.T) {
	t.Parallel()
	for what, g := range rightGrammars() {
		checkNoMatter(t, what, g)
	}
	for seed := range 400 {
		checkNoMatter(t, fmt.Sprint("seed ", seed), smallGrammar(seeded(seed+300)))
	}
}

// Relaxed, so that no SyIf stops anything, and as they are.
func TestFirstsOfManySeeds(t *testing.T) {
	t.Parallel()
	const seeds = 250
	run, some, none, ever := 0, 0, 0, 0
	for seed := range seeds {
		g, what := smallGrammar(seeded(seed+5000)), fmt.Sprint("seed ", seed)
		run += checkFirsts(t, what, g)
		looseSome, looseNone := checkBegins(t, what, relaxed(g), "ab1", 2)
		some, none = some+looseSome, none+looseNone
		ever += oneOf(slices.Contains(toldOf(g), ""))
		if seed%4 == 0 {
			checkBegins(t, what, g, "ab1", 2)
		}
	}
	if run < seeds*10 || some < seeds*20 || none < seeds*10 || ever < 3 {
		t.Errorf("of %d: %d texts run, %d times something taken, %d times nothing, %d with a rule that takes nothing ever", seeds, run, some, none, ever)
	}
}

// rowGrammar has many rules, of one Alt or two, that often call one that never ends, or is nothing.
func rowGrammar(next func(n int) int) impl.Grammar {
	g, count := impl.Grammar{}, 1+next(12)
	for i := range count {
		rule := impl.Rule{Name: fmt.Sprint("R", i)}
		for range 1 + next(2) {
			alt := impl.Alt{}
			for range next(4) {
				sym := symCall(fmt.Sprint("R", next(count)))
				switch next(8) {
				case 0:
					sym = symText(string(symTextBytes[next(len(symTextBytes))]))
				case 1:
					sym = symSet(rightSets()[next(len(rightSets()))])
				case 2:
					sym = symIf(number(next(2)))
				}
				alt.Syms = append(alt.Syms, sym)
			}
			rule.Alts = append(rule.Alts, alt)
		}
		g.Rules = append(g.Rules, rule)
	}
	return g
}

func TestFirstsOfRowsOfManySeeds(t *testing.T) {
	t.Parallel()
	const seeds = 1200
	never, nothing, some, run := 0, 0, 0, 0
	for seed := range seeds {
		g := rowGrammar(seeded(seed))
		run += checkFirsts(t, fmt.Sprint("seed ", seed), g)
		for _, told := range toldOf(g) {
			never += oneOf(told == "")
			nothing += oneOf(strings.HasPrefix(told, "~"))
			some += oneOf(strings.TrimPrefix(told, "~") != "")
		}
	}
	if never < seeds/2 || nothing < seeds || some < seeds || run < seeds {
		t.Errorf("of %d: %d rules take nothing ever, %d may take nothing, %d something, %d texts run", seeds, never, nothing, some, run)
	}
}

func TestSpoiltFirstsOfManySeeds(t *testing.T) {
	t.Parallel()
	const seeds = 3000
	right := 0
	for seed := range seeds {
		next := seeded(seed + 70000)
		g, what := someGrammar(next), fmt.Sprint("seed ", seed)
		for range next(3) {
			spoil(next, &g)
		}
		if !slowGrammarOk(g) {
			nothingTold(t, what, g)
			continue
		}
		right++
		checkFirsts(t, what, g)
	}
	if right < seeds/4 || right > seeds*3/4 {
		t.Errorf("of %d %d are right", seeds, right)
	}
}

// firstsApart asks both of a grammar in memory of its own.
func firstsApart(t *testing.T, what string, plain impl.Grammar) {
	t.Helper()
	g := roomyGrammar(plain)
	bytes := make([][]byte, len(g.Rules))
	for i, rule := range g.Rules {
		bytes[i] = []byte(rule.Name)
		g.Rules[i].Name = unsafe.String(unsafe.SliceData(bytes[i]), len(bytes[i]))
	}
	before := grammarPicture(g)
	lists, texts := grammarStretches(g)
	names, again := impl.Nullable(g), impl.Nullable(g)
	checkApart(t, what, []stretch{listStretch(names)}, append(lists, listStretch(again)))
	for _, name := range names {
		checkApart(t, what, []stretch{textStretch(name)}, texts)
	}
	for rule := -1; rule <= len(g.Rules); rule++ {
		told := impl.FirstBytes(g, rule)
		checkApart(t, what, []stretch{textStretch(told)}, texts)
		if want := impl.FirstBytes(plain, rule); told != want {
			t.Fatalf("%s: with spare room behind its lists FirstBytes of %d is %q, not %q", what, rule, told, want)
		}
	}
	if after := grammarPicture(g); after != before {
		t.Fatalf("%s: an argument is changed:\n%s\nwas\n%s", what, after, before)
	}
	if want := impl.Nullable(plain); !slices.Equal(names, want) {
		t.Fatalf("%s: with spare room behind its lists Nullable is %q, not %q", what, names, want)
	}
	// What was answered stays, whatever becomes of the argument.
	kept := slices.Clone(names)
	for i := range names {
		kept[i] = strings.Clone(names[i])
	}
	for _, name := range bytes {
		clear(name)
	}
	if !slices.Equal(names, kept) {
		t.Fatalf("%s: the Names are the argument's own", what)
	}
}

func TestFirstsShareNoMemory(t *testing.T) {
	grammars := rightGrammars()
	for what, g := range wrongGrammars() {
		grammars["wrong: "+what] = g
	}
	for what, g := range oddGrammars() {
		grammars["odd: "+what] = g
	}
	for seed := range 150 {
		grammars[fmt.Sprint("seed ", seed)] = smallGrammar(seeded(seed))
	}
	for what, g := range grammars {
		firstsApart(t, what, g)
	}
}

func TestRoomBehindFirstsIsNotLookedAt(t *testing.T) {
	rules := []impl.Rule{ruleOf("S", "", altOf(symText("a")), altOf()), ruleOf("T", "", altOf(symText("b")))}
	g := impl.Grammar{Rules: rules[:1]}
	g.Rules[0].Alts = g.Rules[0].Alts[:1]
	firstsAre(t, "behind the rules and the Alts", g, "a")
	g.Rules[0].Alts[0].Syms = []impl.Sym{symIf(number(0)), symText("b")}[:1]
	firstsAre(t, "behind the Syms", g, "~")
	g.Rules[0].Alts[0].Syms[0] = symCall("T")
	nothingTold(t, "a call of a rule behind the list", g)
}

func TestFirstsAnswerTheSameAgain(t *testing.T) {
	g := grammarOf(ruleOf("S", "", altOf(symText("a"), symCall("S"), symText("b")), altOf()), ruleOf("X", "", altOf(symCall("S"), symText("1"))), ruleOf("N", "", altOf(symCall("N"))))
	for range 100 {
		firstsAre(t, "again", g, "~a", "1a", "")
		firstsAre(t, "another", grammarOf(ruleOf("S", "", altOf(symText("z"))), ruleOf("N", "", altOf())), "z", "~")
		nothingTold(t, "none", impl.Grammar{})
		// What was answered may be written over.
		names := impl.Nullable(g)
		names[0] = "over"
		noFirsts(t, "again", g, -1, 3)
	}
}

// What is far too great is answered, and soon.
func TestHugeFirsts(t *testing.T) {
	t.Parallel()
	nothingTold(t, "many rules", manyRules(3000))
	nothingTold(t, "many Alts", grammarOf(ruleOf("S", "", slices.Repeat([]impl.Alt{altOf()}, 1000000)...)))
	nothingTold(t, "many Syms", grammarOf(ruleOf("S", "", altOf(slices.Repeat([]impl.Sym{symText("a")}, 1000000)...))))
	nothingTold(t, "a long Name", grammarOf(ruleOf(strings.Repeat("S", 1000000), "", altOf())))
	nothingTold(t, "a long text", grammarOf(ruleOf("S", "", altOf(symText(strings.Repeat("a", 1000000))))))
	// Each rule calls the next one eight times in each of eight Alts: what they take would be far too long to be told.
	g := impl.Grammar{}
	for i := range 30 {
		alts := slices.Repeat([]impl.Alt{altOf(slices.Repeat([]impl.Sym{symCall(fmt.Sprint("R", (i+1)%30))}, 8)...)}, 8)
		g.Rules = append(g.Rules, ruleOf(fmt.Sprint("R", i), "", alts...))
	}
	each := func(what, want string) {
		t.Helper()
		if got := toldOf(g); !slices.Equal(got, slices.Repeat([]string{want}, 30)) {
			t.Errorf("%s: what the rules may begin with is %q, not %q each", what, got, want)
		}
	}
	each("64 calls, round and round", "")
	g.Rules[29].Alts[7] = altOf(symSet("a-z0-9"))
	each("64 calls", "0123456789abcdefghijklmnopqrstuvwxyz")
	g.Rules[29].Alts[6] = altOf()
	each("64 calls, or nothing", "~0123456789abcdefghijklmnopqrstuvwxyz")
}
