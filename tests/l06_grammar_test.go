package tests

import (
	"fmt"
	"regexp"
	"slices"
	"strings"
	"testing"

	"loop.example/g00243/impl"
)

const (
	greatLetters = "ABCDEFGHIJKLMNOPQRSTUVWXYZ"
	symTextBytes = setBytes + "+-*^()[]:,;.=<>"
)

var (
	wholeRuleName = regexp.MustCompile(`\A[a-zA-Z][a-zA-Z0-9]{0,5}\z`)
	wholeSymText  = regexp.MustCompile(`\A[a-z0-9+\-*^()\[\]:,;.=<>]{1,8}\z`)
)

func symText(text string) impl.Sym { return impl.Sym{Kind: impl.SyText, Text: text} }

func symSet(set string) impl.Sym { return impl.Sym{Kind: impl.SySet, Text: set} }

func symIf(e impl.Expr) impl.Sym { return impl.Sym{Kind: impl.SyIf, Args: []impl.Expr{e}} }

func symCall(name string, args ...impl.Expr) impl.Sym {
	return impl.Sym{Kind: impl.SyCall, Text: name, Args: args}
}

func symBound(bind, name string, args ...impl.Expr) impl.Sym {
	return impl.Sym{Kind: impl.SyCall, Text: name, Args: args, Bind: bind}
}

func altOf(syms ...impl.Sym) impl.Alt { return impl.Alt{Syms: syms} }

// ruleOf has the names that params tells, with blanks between, as Params.
func ruleOf(name, params string, alts ...impl.Alt) impl.Rule {
	return impl.Rule{Name: name, Params: strings.Fields(params), Alts: alts}
}

func grammarOf(rules ...impl.Rule) impl.Grammar { return impl.Grammar{Rules: rules} }

// asked is the expression of a name alone, number that of a number.
func asked(name string) impl.Expr { return exprOf(named(name)) }

func number(n int) impl.Expr { return exprOf(num(n)) }

func numbers(count int) []impl.Expr { return slices.Repeat([]impl.Expr{number(1)}, count) }

// oneRule is a grammar of a rule without Params, and beside it D, which takes a figure, and N, which has a Param.
func oneRule(alts ...impl.Alt) impl.Grammar { return withHelpers(ruleOf("S", "", alts...)) }

// paramRule is such a grammar, whose second rule has Params.
func paramRule(params string, alts ...impl.Alt) impl.Grammar {
	return withHelpers(ruleOf("S", "", altOf()), ruleOf("R", params, alts...))
}

func withHelpers(rules ...impl.Rule) impl.Grammar {
	return grammarOf(append(rules, ruleOf("D", "", altOf(symSet("0-9"))), ruleOf("N", "n", altOf(symIf(asked("n")))))...)
}

// slowBound has the names that the Syms ahead of this place bind.
func slowBound(alt impl.Alt, at int) []string {
	names := []string{}
	for _, sym := range alt.Syms[:at] {
		if sym.Bind != "" {
			names = append(names, sym.Bind)
		}
	}
	return names
}

// slowParamsOf tells how many Params the rules of this Name have; -1 without one.
func slowParamsOf(g impl.Grammar, name string) int {
	for _, rule := range g.Rules {
		if rule.Name == name {
			return len(rule.Params)
		}
	}
	return -1
}

func slowSymOk(g impl.Grammar, rule impl.Rule, alt impl.Alt, at int) bool {
	sym := alt.Syms[at]
	known := map[string]bool{}
	for _, name := range append(slowBound(alt, at), rule.Params...) {
		known[name] = true
	}
	for _, arg := range sym.Args {
		if !slowExprOk(arg) || slices.ContainsFunc(slowFree(arg), func(name string) bool { return !known[name] }) {
			return false
		}
	}
	bindOk := sym.Bind == ""
	switch sym.Kind {
	case 1:
		return bindOk && len(sym.Args) == 0 && wholeSymText.MatchString(sym.Text)
	case 2:
		return bindOk && len(sym.Args) == 0 && slowSetBytes(sym.Text) != ""
	case 3:
		bindOk = bindOk || slowVarName(sym.Bind) && !known[sym.Bind] && len(known)+1 <= 6
		return bindOk && slowParamsOf(g, sym.Text) == len(sym.Args)
	case 4:
		return bindOk && len(sym.Args) == 1 && sym.Text == ""
	}
	return false
}

func slowRuleOk(g impl.Grammar, rule impl.Rule) bool {
	if !wholeRuleName.MatchString(rule.Name) || len(rule.Params) > 6 || len(rule.Alts) == 0 || len(rule.Alts) > 8 {
		return false
	}
	for i, param := range rule.Params {
		if !slowVarName(param) || slices.ContainsFunc(rule.Params[i+1:], func(later string) bool { return later <= param }) {
			return false
		}
	}
	for _, alt := range rule.Alts {
		if len(alt.Syms) > 8 {
			return false
		}
		for at := range alt.Syms {
			if !slowSymOk(g, rule, alt, at) {
				return false
			}
		}
	}
	return true
}

// slowGrammarOk asks rule by rule, and of each Sym gathers anew what is known there.
func slowGrammarOk(g impl.Grammar) bool {
	if len(g.Rules) == 0 || len(g.Rules) > 30 || len(g.Rules[0].Params) > 0 {
		return false
	}
	times := map[string]int{}
	for _, rule := range g.Rules {
		times[rule.Name]++
		if times[rule.Name] > 1 || !slowRuleOk(g, rule) {
			return false
		}
	}
	return true
}

func checkGrammar(t *testing.T, what string, g impl.Grammar) {
	t.Helper()
	if !impl.GrammarOk(g) {
		t.Fatalf("%s: GrammarOk(%v) = false", what, g)
	}
	if !slowGrammarOk(g) {
		t.Fatalf("%s: the slow reading refuses %v", what, g)
	}
}

func refuseGrammar(t *testing.T, what string, g impl.Grammar) {
	t.Helper()
	if impl.GrammarOk(g) {
		t.Fatalf("%s: GrammarOk(%v) = true", what, g)
	}
	if slowGrammarOk(g) {
		t.Fatalf("%s: the slow reading takes %v", what, g)
	}
}

func checkRuleAt(t *testing.T, g impl.Grammar, name string, want int) {
	t.Helper()
	if got := impl.RuleAt(g, name); got != want {
		t.Fatalf("RuleAt(%v, %q) = %d, not %d", g, name, got, want)
	}
}

// ownRule is right by itself, with as many Params as are told: it calls itself alone.
func ownRule(name string, params int) impl.Rule {
	names := strings.Fields("a b c d e f")[:params]
	self := symCall(name, numbers(params)...)
	return impl.Rule{Name: name, Params: names, Alts: []impl.Alt{altOf(symText("a"), self), altOf()}}
}

// manyRules is a right grammar of so many rules, each but the last with a call of the next one.
func manyRules(count int) impl.Grammar {
	g := impl.Grammar{}
	for i := range count {
		alts := []impl.Alt{altOf(symText("a"))}
		if i+1 < count {
			alts = append(alts, altOf(symCall(fmt.Sprintf("R%d", i+1))))
		}
		g.Rules = append(g.Rules, ruleOf(fmt.Sprintf("R%d", i), "", alts...))
	}
	return g
}

// lengthGrammar reads a figure and just as many bytes more.
func lengthGrammar() impl.Grammar {
	less := exprOf(named("n"), num(1), pair(impl.ExSub, 0, 1))
	none := exprOf(named("n"), num(0), pair(impl.ExSame, 0, 1))
	return grammarOf(
		ruleOf("S", "", altOf(symBound("n", "D"), symCall("Row", asked("n")))),
		ruleOf("D", "", altOf(symSet("0-9"))),
		ruleOf("Row", "n",
			altOf(symIf(none)),
			altOf(symIf(exprOf(num(0), named("n"), pair(impl.ExLess, 0, 1))), symSet("a-z"), symCall("Row", less))),
	)
}

// climbGrammar has rules with numbers that tell how tight an operator binds.
func climbGrammar() impl.Grammar {
	tight := func(level int) impl.Expr {
		return exprOf(num(level), named("p"), pair(impl.ExLess, 0, 1), not(2))
	}
	return grammarOf(
		ruleOf("S", "", altOf(symCall("E", number(0)))),
		ruleOf("E", "p",
			altOf(symIf(tight(1)), symCall("E", number(1)), symText("+"), symCall("E", number(2))),
			altOf(symIf(tight(2)), symCall("E", number(3)), symText("^"), symCall("E", number(2))),
			altOf(symCall("A"))),
		ruleOf("A", "", altOf(symSet("0-9")), altOf(symText("("), symCall("E", number(0)), symText(")"))),
	)
}

func rightGrammars() map[string]impl.Grammar {
	sum := exprOf(named("a"), named("b"), pair(impl.ExAdd, 0, 1))
	return map[string]impl.Grammar{
		"an Alt without Syms":      grammarOf(ruleOf("S", "", altOf())),
		"itself within":            grammarOf(ruleOf("S", "", altOf(symText("a"), symCall("S"), symText("b")), altOf())),
		"left recursion":           grammarOf(ruleOf("S", "", altOf(symCall("S"), symText("a")), altOf(symText("a")))),
		"a circle":                 grammarOf(ruleOf("S", "", altOf(symCall("S")))),
		"a circle of two":          grammarOf(ruleOf("S", "", altOf(symCall("T"))), ruleOf("T", "", altOf(symCall("S")))),
		"a length":                 lengthGrammar(),
		"operators":                climbGrammar(),
		"a rule never called":      grammarOf(ruleOf("S", "", altOf(symText("a"))), ruleOf("T", "a b", altOf(symIf(sum)))),
		"an unlike case":           grammarOf(ruleOf("ab", "", altOf(symCall("aB"))), ruleOf("aB", "", altOf(symCall("Ab"))), ruleOf("Ab", "", altOf())),
		"a beginning as a name":    grammarOf(ruleOf("Ab", "", altOf(symCall("A"))), ruleOf("A", "", altOf(symCall("Ab")))),
		"two Alts alike":           oneRule(altOf(symText("a")), altOf(symText("a"))),
		"bound and asked":          oneRule(altOf(symBound("b", "D"), symIf(asked("b")), symText("b"), symCall("N", asked("b")))),
		"bound one by the other":   oneRule(altOf(symBound("a", "D"), symBound("b", "N", asked("a")), symCall("N", sum))),
		"bound, and not asked":     oneRule(altOf(symBound("z", "D"))),
		"bound out of order":       oneRule(altOf(symBound("c", "D"), symBound("a", "D"), symBound("b", "D"), symIf(sum))),
		"bound in two Alts":        oneRule(altOf(symBound("b", "D"), symIf(asked("b"))), altOf(symBound("b", "D")), altOf(symBound("a", "D"), symBound("b", "D"))),
		"bound in two rules":       withHelpers(ruleOf("S", "", altOf(symBound("b", "D"))), ruleOf("T", "", altOf(symBound("b", "D")))),
		"bound beside a Param":     paramRule("a c", altOf(symBound("b", "D"), symIf(sum), symIf(asked("c")))),
		"bound as others' Params":  oneRule(altOf(symBound("n", "D"), symCall("N", asked("n")))),
		"Params in each Alt":       paramRule("a b", altOf(symIf(sum)), altOf(symCall("N", sum)), altOf(symBound("c", "N", asked("b")))),
		"itself with Params":       paramRule("a b", altOf(symBound("c", "R", asked("b"), asked("a")), symCall("R", asked("c"), sum))),
		"one Param in two rules":   paramRule("n", altOf(symCall("N", asked("n")))),
		"Args of numbers and here": oneRule(altOf(symCall("N", number(99)), symCall("N", exprOf(hereNode())), symIf(exprOf(hereNode(), not(0))))),
		"each Kind":                oneRule(altOf(symText("a"), symSet("b"), symCall("D"), symIf(number(1)))),
		"great expressions":        paramRule("a", altOf(symIf(chain(20)), symIf(just200()), symIf(greatest()), symCall("N", doubled(impl.ExAdd, 20)))),
		"what can't be reckoned":   oneRule(altOf(symIf(exprOf(num(1), num(0), pair(impl.ExDiv, 0, 1))), symCall("N", beyondAbove()))),
		"five":                     manyRules(5),
	}
}

func TestRuleNameLengths(t *testing.T) {
	for n := range 20 {
		for _, s := range []string{strings.Repeat("a", n), strings.Repeat("Z", n), ("Q" + strings.Repeat("9", n))[:n]} {
			if got := impl.RuleName(s); got != (n >= 1 && n <= 6) {
				t.Errorf("RuleName(%q) = %v", s, got)
			}
		}
	}
	for _, s := range []string{"a", "z", "A", "Z", "S", "A1", "a9", "x0", "aB3dE6", "ABCDEF", "a00000"} {
		if !impl.RuleName(s) {
			t.Errorf("RuleName(%q) = false", s)
		}
	}
	for _, s := range []string{"", "1", "0", "9", "1a", "9Z", "0A1", "123456", "abcdefg", "A234567", "Sé", "é", "ſ", strings.Repeat("a", 262)} {
		if impl.RuleName(s) {
			t.Errorf("RuleName(%q) = true", s)
		}
	}
}

// Each byte there is, at each place of names of each length.
func TestRuleNameBytes(t *testing.T) {
	letters := smallLetters + greatLetters
	for _, plain := range []string{"m", "mQ", "Q4m", "mmmm", "QQQQQ", "m2m4m6"} {
		for at := range len(plain) {
			for b := range 256 {
				s := withByte(plain, at, byte(b))
				want := strings.IndexByte(letters, byte(b)) >= 0 || at > 0 && b >= '0' && b <= '9'
				if got := impl.RuleName(s); got != want {
					t.Errorf("RuleName(%q) = %v", s, got)
				}
			}
		}
	}
}

func TestRuleNameOfManyTexts(t *testing.T) {
	textsOf("aZ09_ ", 7, func(s string) {
		if got := impl.RuleName(s); got != wholeRuleName.MatchString(s) {
			t.Fatalf("RuleName(%q) = %v", s, got)
		}
	})
}

func TestRuleAt(t *testing.T) {
	g := manyRules(30)
	for i := range 30 {
		checkRuleAt(t, g, fmt.Sprintf("R%d", i), i)
	}
	for _, name := range []string{"", "R", "r0", "R30", "R00", "R1 ", " R1", "R1\x00", "0"} {
		checkRuleAt(t, g, name, -1)
	}
	checkRuleAt(t, impl.Grammar{}, "S", -1)
	checkRuleAt(t, impl.Grammar{}, "", -1)
	checkRuleAt(t, grammarOf(ruleOf("S", "", altOf(symCall("T"), symText("U"), symBound("v", "S")))), "T", -1)
}

// The grammar need not be right.
func TestRuleAtOfWrongGrammars(t *testing.T) {
	g := grammarOf(ruleOf("A", ""), ruleOf("B", "zz 1"), ruleOf("A", ""), ruleOf("", ""), ruleOf("B", ""), ruleOf("", ""), ruleOf("not a name", ""), ruleOf("A", ""), ruleOf("C", ""))
	checkRuleAt(t, g, "A", 0)
	checkRuleAt(t, g, "B", 1)
	checkRuleAt(t, g, "", 3)
	checkRuleAt(t, g, "not a name", 6)
	checkRuleAt(t, g, "C", 8)
	checkRuleAt(t, g, "D", -1)
	long := manyRules(100)
	checkRuleAt(t, long, "R99", 99)
	checkRuleAt(t, long, "R100", -1)
}

func TestRightGrammars(t *testing.T) {
	for what, g := range rightGrammars() {
		checkGrammar(t, what, g)
		for at, rule := range g.Rules {
			checkRuleAt(t, g, rule.Name, at)
		}
	}
}

func TestEachKindByItselfAndBesideOthers(t *testing.T) {
	kinds := []impl.Sym{
		symText("a"), symText("+"), symSet("a"), symSet("0-9a-z"), symCall("S"), symCall("D"), symCall("N", number(3)),
		symBound("b", "D"), symBound("c", "N", exprOf(hereNode())), symIf(number(0)), symIf(exprOf(hereNode())),
	}
	for _, first := range kinds {
		checkGrammar(t, "one Kind", oneRule(altOf(first)))
		for _, second := range kinds {
			// The same name bound by both is the one thing that they can not have together.
			if first.Bind != "" && first.Bind == second.Bind {
				refuseGrammar(t, "bound twice", oneRule(altOf(first, second)))
				continue
			}
			checkGrammar(t, "two Kinds", oneRule(altOf(first, second)))
			checkGrammar(t, "two Alts", oneRule(altOf(first), altOf(second), altOf()))
		}
	}
}

// Calls of a rule ahead, of a later one and of itself, from each rule, with as many Args as it has Params, or others.
func TestCallsOfEachRuleFromEach(t *testing.T) {
	for from := range 4 {
		for to := range 4 {
			for args := range 9 {
				g := grammarOf(ownRule("P", 0), ownRule("Q", 1), ownRule("R", 2), ownRule("T", 6))
				params := len(g.Rules[to].Params)
				call := symCall(g.Rules[to].Name, numbers(args)...)
				g.Rules[from].Alts = append(g.Rules[from].Alts, altOf(symText("x"), call))
				if args == params {
					checkGrammar(t, "a call", g)
				} else {
					refuseGrammar(t, "a call with Args that are no Params", g)
				}
			}
		}
	}
}

func TestCallsOfNoRule(t *testing.T) {
	for _, name := range []string{"", "T", "s", "SS", "d", "D0", "S ", "0", "a", "n", "+", strings.Repeat("S", 300)} {
		refuseGrammar(t, "a call of no rule", oneRule(altOf(symCall(name))))
		refuseGrammar(t, "a bound call of no rule", oneRule(altOf(symBound("b", name))))
		refuseGrammar(t, "a call of no rule, with an Arg", oneRule(altOf(symCall(name, number(1)))))
	}
}

func TestARightGrammarStaysRightWithARuleMore(t *testing.T) {
	for what, g := range rightGrammars() {
		rules := []impl.Rule{
			ownRule("More", 0), ownRule("More", 1), ownRule("More", 6),
			ruleOf("m0", "", altOf()),
			ruleOf("zzz999", "zz zzz", altOf(symBound("b", g.Rules[0].Name), symIf(asked("b")), symCall("zzz999", asked("zz"), asked("b")))),
		}
		for _, rule := range g.Rules {
			rules = append(rules, ruleOf("Calls", "a", altOf(symBound("b", rule.Name, numbers(len(rule.Params))...), symCall("Calls", asked("b")))))
		}
		for _, rule := range rules {
			for at := range len(g.Rules) + 1 {
				more := grammarOf(slices.Insert(slices.Clone(g.Rules), at, rule)...)
				if at == 0 && len(rule.Params) > 0 {
					refuseGrammar(t, what+", with a first rule that has Params", more)
				} else {
					checkGrammar(t, what+", with a rule more", more)
				}
			}
		}
		checkGrammar(t, what+", as it was", g)
	}
}

func TestARuleMoreWhoseNameIsThere(t *testing.T) {
	for what, g := range rightGrammars() {
		for _, rule := range g.Rules {
			for _, again := range []impl.Rule{rule, ownRule(rule.Name, 0), ownRule(rule.Name, len(rule.Params))} {
				for at := range len(g.Rules) + 1 {
					more := grammarOf(slices.Insert(slices.Clone(g.Rules), at, again)...)
					refuseGrammar(t, what+", with a Name twice", more)
				}
			}
		}
	}
}

func TestARuleMoreThatIsNotRight(t *testing.T) {
	wrong := []impl.Rule{
		{}, ownRule("1", 0), ownRule("", 0), ownRule("Longest", 0), ruleOf("W", ""), ruleOf("W", "b a", altOf()), ruleOf("W", "A", altOf()),
		ruleOf("W", "", altOf(symText(""))), ruleOf("W", "", altOf(symCall("W0"))), ruleOf("W", "", altOf(symIf(asked("n")))), ruleOf("W", "a", altOf(symCall("W"))),
	}
	for what, g := range rightGrammars() {
		for _, rule := range wrong {
			for at := range len(g.Rules) + 1 {
				refuseGrammar(t, what+", with a rule that is not right", grammarOf(slices.Insert(slices.Clone(g.Rules), at, rule)...))
			}
		}
	}
}

func TestManyRules(t *testing.T) {
	refuseGrammar(t, "no rules", impl.Grammar{})
	refuseGrammar(t, "no rules, but a list", grammarOf([]impl.Rule{}...))
	for count := 1; count <= 30; count++ {
		checkGrammar(t, "1 to 30 rules", manyRules(count))
		checkGrammar(t, "the last one calls the first", withSym(manyRules(count), count-1, symCall("R0")))
	}
	for _, count := range []int{31, 32, 60, 1000} {
		refuseGrammar(t, "too many rules", manyRules(count))
	}
	refuseGrammar(t, "the 31st", grammarOf(append(manyRules(30).Rules, ownRule("More", 0))...))
}

// withSym has an Alt with this Sym alone behind those of the rule.
func withSym(g impl.Grammar, rule int, sym impl.Sym) impl.Grammar {
	g.Rules[rule].Alts = append(g.Rules[rule].Alts, altOf(sym))
	return g
}

func TestManyAlts(t *testing.T) {
	for count := range 20 {
		for _, alt := range []impl.Alt{altOf(), altOf(symText("a")), altOf(symBound("b", "D"), symIf(asked("b")))} {
			alts := slices.Repeat([]impl.Alt{alt}, count)
			for _, g := range []impl.Grammar{oneRule(alts...), paramRule("a", alts...)} {
				if count >= 1 && count <= 8 {
					checkGrammar(t, "1 to 8 Alts", g)
				} else {
					refuseGrammar(t, "too few or too many Alts", g)
				}
			}
		}
	}
	refuseGrammar(t, "no Alts, the only rule", grammarOf(ruleOf("S", "")))
}

func TestManySyms(t *testing.T) {
	for count := range 20 {
		for _, sym := range []impl.Sym{symText("a"), symSet("a"), symCall("S"), symIf(number(1)), symCall("N", number(2))} {
			full := altOf(slices.Repeat([]impl.Sym{sym}, count)...)
			for _, g := range []impl.Grammar{oneRule(full), oneRule(altOf(), full), paramRule("a", full, altOf(sym))} {
				if count <= 8 {
					checkGrammar(t, "at most 8 Syms", g)
				} else {
					refuseGrammar(t, "too many Syms", g)
				}
			}
		}
	}
}

func TestFirstRuleWithParams(t *testing.T) {
	for params := range 9 {
		g := grammarOf(ruleOf("S", strings.Join(strings.Fields("a b c d e f g h")[:params], " "), altOf()), ruleOf("T", "", altOf()))
		if params == 0 {
			checkGrammar(t, "without Params", g)
		} else {
			refuseGrammar(t, "a first rule with Params", g)
		}
	}
	g := lengthGrammar()
	slices.Reverse(g.Rules)
	refuseGrammar(t, "a length, with Row first", g)
}

func TestParams(t *testing.T) {
	for _, params := range []string{"", "a", "z", "zzzz", "a b", "a ab", "ab b", "a aa aaa aaaa", "abcd abce", "x y z", "a b c d e f", "u v w x y z", "a aa ab b ba zzzz"} {
		checkGrammar(t, "Params", paramRule(params, altOf()))
		for _, param := range strings.Fields(params) {
			checkGrammar(t, "a Param that is asked for", paramRule(params, altOf(symIf(asked(param)), symCall("N", asked(param)))))
		}
	}
	for _, params := range []string{
		"a b c d e f g", "a b c d e f g h i j k l m n", "b a", "a c b", "ab a", "zzzz a", "b c d e f a", "a b c d f e",
		"a a", "a b b", "a a b", "a b a", "a b c d e e", "zz zz zz",
		"A", "a B", "1", "a1", "a 1", "abcde", "a abcde", "é", "a+", "@", "-",
	} {
		refuseGrammar(t, "wrong Params", paramRule(params, altOf()))
	}
	for _, params := range [][]string{{""}, {"", "a"}, {"a", ""}, {" "}, {"a "}, {" a", "b"}, {"a b"}, {"\x00"}, {"a\n"}} {
		g := paramRule("", altOf())
		g.Rules[1].Params = params
		refuseGrammar(t, "wrong Params", g)
	}
}

// A rule that is called must be right itself, though there are as many Args as it has Params.
func TestCallsOfRulesWithWrongParams(t *testing.T) {
	for _, params := range []string{"b a", "a a", "A", "abcde", "a b c d e f g"} {
		args := numbers(len(strings.Fields(params)))
		refuseGrammar(t, "a call with wrong Params", grammarOf(ruleOf("S", "", altOf(symCall("W", args...))), ruleOf("W", params, altOf())))
	}
}

func TestRuleNamesInGrammars(t *testing.T) {
	for _, name := range []string{"a", "Z", "abcdef", "A23456", "x0"} {
		checkGrammar(t, "a Name", grammarOf(ruleOf(name, "", altOf(symCall(name)))))
		checkGrammar(t, "a Name of the second rule", grammarOf(ruleOf("Start", "", altOf(symCall(name))), ruleOf(name, "", altOf())))
	}
	for _, name := range []string{"", "1", "1a", "abcdefg", "a b", "a-b", "a_b", "é", " S", "S\n", "S\x00", "(", "@", "[", "`", "{", "/", ":"} {
		refuseGrammar(t, "a wrong Name", grammarOf(ruleOf(name, "", altOf())))
		refuseGrammar(t, "a wrong Name that is called", grammarOf(ruleOf("Start", "", altOf(symCall(name))), ruleOf(name, "", altOf())))
	}
}

func TestTwoRulesOfOneName(t *testing.T) {
	for count := 2; count <= 6; count++ {
		for i := range count {
			for j := range count {
				g := manyRules(count)
				for k := range g.Rules {
					g.Rules[k].Alts = g.Rules[k].Alts[:1]
				}
				g.Rules[i].Name = g.Rules[j].Name
				if i == j {
					checkGrammar(t, "unlike Names", g)
				} else {
					refuseGrammar(t, "two rules of one Name", g)
				}
			}
		}
	}
}

func TestSymTextLengths(t *testing.T) {
	for n := range 20 {
		for _, letter := range []string{"a", "0", "+", ">"} {
			g := oneRule(altOf(symText(strings.Repeat(letter, n))))
			if n >= 1 && n <= 8 {
				checkGrammar(t, "a Text", g)
			} else {
				refuseGrammar(t, "a Text too short or too long", g)
			}
		}
	}
	refuseGrammar(t, "a Text far too long", oneRule(altOf(symText(strings.Repeat("a", 264)))))
}

// Each byte there is, at each place of Texts of some lengths.
func TestSymTextBytes(t *testing.T) {
	for _, plain := range []string{"a", "ab", "(1)", "a+b-c*d^"} {
		for at := range len(plain) {
			for b := range 256 {
				g := oneRule(altOf(symText(withByte(plain, at, byte(b)))))
				if strings.IndexByte(symTextBytes, byte(b)) >= 0 {
					checkGrammar(t, "a byte of a Text", g)
				} else {
					refuseGrammar(t, "a byte of no Text", g)
				}
			}
		}
	}
	for _, text := range []string{"é", "aé", "S", "A", " ", "a b", "!", "@", "/", "&", "|", "#", "?", "_", "\"", "{", "}", "a\n"} {
		refuseGrammar(t, "a byte of no Text", oneRule(altOf(symText(text))))
	}
}

func TestSymSets(t *testing.T) {
	for _, set := range rightSets() {
		checkGrammar(t, "a set", oneRule(altOf(symSet(set))))
	}
	for _, set := range wrongSets() {
		refuseGrammar(t, "no set", oneRule(altOf(symSet(set))))
		refuseGrammar(t, "a set and none", oneRule(altOf(symSet("a"), symSet(set))))
	}
	// A set is a Text, too, but not each Text is a set.
	checkGrammar(t, "a Text that is no set", oneRule(altOf(symText("z-a"))))
	refuseGrammar(t, "a set that is a Text", oneRule(altOf(symSet("z-a"))))
	refuseGrammar(t, "a Text that is too long, but a set", oneRule(altOf(symText("acegikmoq"))))
	checkGrammar(t, "a set that is too long for a Text", oneRule(altOf(symSet("acegikmoq"))))
}

func TestWrongKinds(t *testing.T) {
	for _, kind := range []int{0, -1, -2, -3, -4, 5, 6, 8, 259, 1 << 32, 1<<32 + 1, leastInt, greatestInt} {
		for _, sym := range []impl.Sym{{}, symText("a"), symSet("a"), symCall("S"), symCall("N", number(1)), symBound("b", "D"), symIf(number(1))} {
			sym.Kind = kind
			refuseGrammar(t, "a wrong Kind", oneRule(altOf(sym)))
			refuseGrammar(t, "a wrong Kind behind others", oneRule(altOf(), altOf(symText("a"), sym)))
			refuseGrammar(t, "a wrong Kind in a later rule", paramRule("a", altOf(sym)))
		}
	}
}

// Each Kind with each of what another Kind may have.
func TestWhatIsNotAKindsOwn(t *testing.T) {
	right := map[string]int{}
	for kind := -1; kind <= 6; kind++ {
		for _, text := range []string{"", "a", "S", "d", "D", "N", "Two", "a-c", "+", "a-"} {
			for args := range 4 {
				for _, bind := range []string{"", "b", "B"} {
					sym := impl.Sym{Kind: kind, Text: text, Args: numbers(args), Bind: bind}
					g := oneRule(altOf(sym))
					g.Rules = append(g.Rules, ruleOf("Two", "a b", altOf()))
					if slowGrammarOk(g) != impl.GrammarOk(g) {
						t.Fatalf("GrammarOk(%v) = %v", g, impl.GrammarOk(g))
					}
					right[fmt.Sprint(kind)] += oneOf(impl.GrammarOk(g))
				}
			}
		}
	}
	// a, d, a-c, + and a- are Texts, a, d and a-c sets; S, D, N and Two are rules, bound or not.
	for kind, want := range map[string]int{"-1": 0, "0": 0, "1": 5, "2": 3, "3": 8, "4": 1, "5": 0, "6": 0} {
		if right[kind] != want {
			t.Errorf("of the Kind %s there are %d right Syms, not %d", kind, right[kind], want)
		}
	}
	one, two := numbers(1), numbers(2)
	for what, sym := range map[string]impl.Sym{
		"Args at SyText":        {Kind: impl.SyText, Text: "a", Args: one},
		"a Bind at SyText":      {Kind: impl.SyText, Text: "a", Bind: "b"},
		"Args at SySet":         {Kind: impl.SySet, Text: "a", Args: one},
		"a Bind at SySet":       {Kind: impl.SySet, Text: "a", Bind: "b"},
		"a Text at SyIf":        {Kind: impl.SyIf, Text: "a", Args: one},
		"a rule's Name at SyIf": {Kind: impl.SyIf, Text: "N", Args: one},
		"a Bind at SyIf":        {Kind: impl.SyIf, Args: one, Bind: "b"},
		"no Args at SyIf":       {Kind: impl.SyIf},
		"two Args at SyIf":      {Kind: impl.SyIf, Args: two},
		"no Text at SyCall":     {Kind: impl.SyCall},
		"no Text at SyText":     {Kind: impl.SyText},
		"no Text at SySet":      {Kind: impl.SySet},
	} {
		refuseGrammar(t, what, oneRule(altOf(sym)))
	}
}

// An empty list and nil are the same value.
func TestGrammarsWithEmptyLists(t *testing.T) {
	text, set, call := symText("a"), symSet("a"), symCall("S")
	text.Args, set.Args, call.Args = []impl.Expr{}, make([]impl.Expr, 0, 3), []impl.Expr{}
	checkGrammar(t, "empty lists", grammarOf(impl.Rule{Name: "S", Params: []string{}, Alts: []impl.Alt{{Syms: []impl.Sym{}}, altOf(text, set, call)}}))
	checkGrammar(t, "nil lists", grammarOf(impl.Rule{Name: "S", Alts: []impl.Alt{{}, altOf(symText("a"), symSet("a"), impl.Sym{Kind: impl.SyCall, Text: "S"})}}))
	refuseGrammar(t, "an empty list of Alts", grammarOf(impl.Rule{Name: "S", Alts: []impl.Alt{}}))
}

func TestBindNames(t *testing.T) {
	for _, bind := range []string{"a", "z", "ab", "abc", "abcd", "zzzz", "s", "d", "n"} {
		checkGrammar(t, "a Bind", oneRule(altOf(symBound(bind, "D"), symIf(asked(bind)))))
	}
	for _, bind := range []string{"abcde", "A", "aB", "S", "D", "1", "a1", " ", "a ", "é", "@", "\x00", "a\n", strings.Repeat("a", 257)} {
		refuseGrammar(t, "a Bind that is no VarName", oneRule(altOf(symBound(bind, "D"))))
		refuseGrammar(t, "a Bind that is no VarName, of a call with Args", oneRule(altOf(symBound(bind, "N", number(1)))))
	}
	textsOf("az0A ", 5, func(bind string) {
		g := oneRule(altOf(symBound(bind, "D")))
		if want := bind == "" || slowVarName(bind); impl.GrammarOk(g) != want {
			t.Fatalf("with the Bind %q GrammarOk is %v", bind, !want)
		}
	})
}

func TestNamesBoundTwice(t *testing.T) {
	for what, alt := range map[string]impl.Alt{
		"one behind the other":    altOf(symBound("b", "D"), symBound("b", "D")),
		"by calls of two rules":   altOf(symBound("b", "D"), symBound("b", "S")),
		"with others between":     altOf(symBound("b", "D"), symText("a"), symIf(asked("b")), symSet("a"), symCall("D"), symBound("b", "D")),
		"with one bound between":  altOf(symBound("b", "D"), symBound("c", "D"), symBound("b", "D")),
		"the second one of three": altOf(symBound("a", "D"), symBound("b", "D"), symBound("c", "D"), symBound("b", "D")),
		"first and eighth":        altOf(symBound("b", "D"), symText("a"), symText("a"), symText("a"), symText("a"), symText("a"), symText("a"), symBound("b", "D")),
		"three times":             altOf(symBound("b", "D"), symBound("b", "D"), symBound("b", "D")),
		"of what it hands on":     altOf(symBound("b", "D"), symBound("b", "N", asked("b"))),
	} {
		refuseGrammar(t, "bound twice, "+what, oneRule(alt))
		refuseGrammar(t, "bound twice in a later Alt, "+what, oneRule(altOf(), altOf(symBound("b", "D")), alt))
		refuseGrammar(t, "bound twice in a later rule, "+what, paramRule("x", alt))
	}
	for _, param := range []string{"a", "c", "e"} {
		refuseGrammar(t, "a Param is bound", paramRule("a c e", altOf(symBound(param, "D"))))
		refuseGrammar(t, "a Param is bound behind others", paramRule("a c e", altOf(), altOf(symText("a"), symBound("b", "D"), symBound(param, "D"))))
	}
	refuseGrammar(t, "the Param is bound by a call of itself", paramRule("a", altOf(symBound("a", "R", asked("a")))))
}

// What is bound in an Alt is new in each other one, in whatever order they stand.
func TestNamesBoundInSeveralAlts(t *testing.T) {
	six := altOf(symBound("f", "D"), symBound("e", "D"), symBound("d", "D"), symBound("c", "D"), symBound("b", "D"), symBound("a", "D"))
	checkGrammar(t, "six in each of eight Alts", oneRule(slices.Repeat([]impl.Alt{six}, 8)...))
	others := altOf(symBound("u", "D"), symBound("v", "D"), symBound("w", "D"), symBound("x", "D"), symBound("y", "D"), symBound("z", "D"))
	checkGrammar(t, "six, and six others", oneRule(six, others, six))
	one := altOf(symBound("b", "D"), symIf(asked("b")))
	checkGrammar(t, "one in each", oneRule(one, altOf(symText("b")), one, one))
	checkGrammar(t, "in each, beside a Param", paramRule("a", one, one))
}

func TestAsManyNamesAsMayBeKnown(t *testing.T) {
	for params := range 7 {
		for binds := range 9 {
			syms := []impl.Sym{}
			for _, name := range strings.Fields("o p q r s t u v")[:binds] {
				syms = append(syms, symBound(name, "D"))
			}
			g := paramRule(strings.Join(strings.Fields("a b c d e f")[:params], " "), altOf(syms...))
			if params+binds <= 6 {
				checkGrammar(t, "known names", g)
			} else {
				refuseGrammar(t, "too many known names", g)
			}
		}
	}
	full := "a b c d e f"
	checkGrammar(t, "as many Params, and calls that bind nothing", paramRule(full, altOf(symCall("D"), symCall("N", asked("f")), symIf(asked("a")), symText("a"))))
	refuseGrammar(t, "as many Params, and a call that binds", paramRule(full, altOf(symCall("D"), symBound("g", "D"))))
	// Each Alt has as many as there may be, by itself.
	checkGrammar(t, "as many in two Alts", paramRule("a b c", altOf(symBound("d", "D"), symBound("e", "D"), symBound("f", "D")), altOf(symBound("x", "D"), symBound("y", "D"), symBound("z", "D"))))
	refuseGrammar(t, "one more in the second Alt", paramRule("a b c", altOf(), altOf(symBound("w", "D"), symBound("x", "D"), symBound("y", "D"), symBound("z", "D"))))
}

func TestArgsThatAreNotRight(t *testing.T) {
	for _, arg := range []impl.Expr{
		{}, chain(21), number(100), number(-1), asked(""), asked("A"), asked("abcde"), exprOf(not(0)), exprOf(impl.ExNode{}), exprOf(impl.ExNode{Op: 12}),
		exprOf(num(1), pair(impl.ExAdd, 0, 1)), exprOf(num(1), not(0), impl.ExNode{Op: impl.ExHere, Num: 1}), exprOf(impl.ExNode{}, num(1)),
	} {
		refuseGrammar(t, "a wrong Arg at SyIf", oneRule(altOf(symIf(arg))))
		refuseGrammar(t, "a wrong Arg at SyCall", oneRule(altOf(symCall("N", arg))))
		refuseGrammar(t, "a wrong Arg at a call that binds", oneRule(altOf(symBound("b", "N", arg))))
		refuseGrammar(t, "a wrong first Arg", paramRule("a b", altOf(symCall("R", arg, number(1)))))
		refuseGrammar(t, "a wrong last Arg", paramRule("a b", altOf(symCall("R", number(1), arg))))
	}
}

func TestArgsWithNamesThatAreNotKnown(t *testing.T) {
	b := asked("b")
	asks := []impl.Sym{symIf(b), symCall("N", b), symBound("c", "N", b), symIf(exprOf(named("a"), named("b"), pair(impl.ExAdd, 0, 1))), symIf(exprOf(named("b"), not(0)))}
	binds := symBound("b", "D")
	for _, ask := range asks {
		with := func(syms ...impl.Sym) impl.Alt { return altOf(append([]impl.Sym{symBound("a", "D")}, syms...)...) }
		checkGrammar(t, "bound ahead", oneRule(with(binds, ask)))
		checkGrammar(t, "bound far ahead", oneRule(with(binds, symText("a"), symCall("D"), symIf(number(1)), ask)))
		refuseGrammar(t, "bound nowhere", oneRule(with(ask)))
		refuseGrammar(t, "bound behind", oneRule(with(ask, binds)))
		refuseGrammar(t, "bound in the Alt ahead", oneRule(with(binds), with(ask)))
		refuseGrammar(t, "bound in the Alt behind", oneRule(with(ask), with(binds)))
		refuseGrammar(t, "bound in the rule ahead", withHelpers(ruleOf("S", "", with(binds)), ruleOf("T", "", with(ask))))
		refuseGrammar(t, "bound in the rule behind", withHelpers(ruleOf("S", "", with(ask)), ruleOf("T", "", with(binds))))
		refuseGrammar(t, "a Param of another rule", withHelpers(ruleOf("S", "", with(ask)), ruleOf("T", "b", with(ask))))
		checkGrammar(t, "a Param", withHelpers(ruleOf("S", "", altOf()), ruleOf("T", "b", with(ask))))
		refuseGrammar(t, "another Param", withHelpers(ruleOf("S", "", altOf()), ruleOf("T", "bb d", with(ask))))
		refuseGrammar(t, "a Param of the rule ahead", withHelpers(ruleOf("S", "", altOf()), ruleOf("P", "b", altOf()), ruleOf("T", "d", with(ask))))
	}
	refuseGrammar(t, "bound by the same call", oneRule(altOf(symBound("b", "N", b))))
	refuseGrammar(t, "bound by the same call, in the last Arg", paramRule("a c", altOf(symBound("b", "R", asked("a"), b))))
	refuseGrammar(t, "a Param of the rule that is called", oneRule(altOf(symCall("N", asked("n")))))
	refuseGrammar(t, "what the rule that is called binds", withHelpers(ruleOf("S", "", altOf(symCall("T"), symIf(b))), ruleOf("T", "", altOf(binds))))
	// Names are those of all nodes, also of one that the whole does not come to.
	refuseGrammar(t, "an unknown name beside the whole", oneRule(altOf(symIf(exprOf(named("b"), num(1))))))
	checkGrammar(t, "a known name beside the whole", oneRule(altOf(binds, symIf(exprOf(named("b"), num(1))))))
}

// What is a SyText's or a SySet's, and wrong there, is known to nobody.
func TestBindsOfOtherKindsAreRefused(t *testing.T) {
	for _, sym := range []impl.Sym{symText("a"), symSet("a"), symIf(number(1))} {
		sym.Bind = "b"
		refuseGrammar(t, "a Bind of no call", oneRule(altOf(sym, symIf(asked("b")))))
		refuseGrammar(t, "a Bind of no call, alone", oneRule(altOf(symText("a"), sym)))
	}
}

// A fault is found in whatever rule, Alt and place it stands.
func TestFaultsAtEachPlace(t *testing.T) {
	faults := []impl.Sym{symText("A"), symSet("-"), symCall("None"), symIf(asked("q")), {}, symBound("a", "P"), {Kind: impl.SyIf}, symCall("P", number(1))}
	for rule := range 4 {
		for alt := range 8 {
			for at := range 8 {
				g := grammarOf()
				for _, name := range []string{"P", "Q", "R", "T"} {
					full := ruleOf(name, "")
					for range 8 {
						full.Alts = append(full.Alts, altOf(append([]impl.Sym{symBound("a", "P")}, slices.Repeat([]impl.Sym{symText("x")}, 7)...)...))
					}
					g.Rules = append(g.Rules, full)
				}
				checkGrammar(t, "full rules", g)
				for _, fault := range faults {
					// At the first place the call that binds is right.
					if at == 0 && fault.Bind != "" {
						continue
					}
					kept := g.Rules[rule].Alts[alt].Syms[at]
					g.Rules[rule].Alts[alt].Syms[at] = fault
					refuseGrammar(t, "a fault", g)
					g.Rules[rule].Alts[alt].Syms[at] = kept
				}
			}
		}
	}
}

// seeded answers numbers below n that hang on the seed alone.
func seeded(seed int) func(n int) int {
	state := uint64(seed)*2 + 1
	return func(n int) int {
		state = state*6364136223846793005 + 1442695040888963407
		return int(state>>33) % n
	}
}

// someArg is a name that may be known, or one that is not, or a number.
func someArg(next func(n int) int, known []string) impl.Expr {
	if len(known) == 0 || next(4) == 0 {
		return exprOf(num(next(100)), hereNode(), pair(impl.ExAdd+next(7), 0, 1))
	}
	if next(60) == 0 {
		return asked("zz")
	}
	return exprOf(named(known[next(len(known))]), num(3), pair(impl.ExAdd+next(7), 0, 1))
}

func someSym(next func(n int) int, g impl.Grammar, known []string) impl.Sym {
	switch next(5) {
	case 0:
		return symText(strings.Repeat(symTextBytes[next(len(symTextBytes)):][:1], 1+next(8)))
	case 1:
		return symSet(rightSets()[next(len(rightSets()))])
	case 2:
		return symIf(someArg(next, known))
	}
	rule := g.Rules[next(len(g.Rules))]
	args := []impl.Expr{}
	for range rule.Params {
		args = append(args, someArg(next, known))
	}
	return symBound([]string{"", "", "a", "b", "c", "d", "k", "v", "w", "x"}[next(10)], rule.Name, args...)
}

// someGrammar is nearly right: its calls bind names by chance, so that some are bound twice, or are too many.
func someGrammar(next func(n int) int) impl.Grammar {
	g := impl.Grammar{}
	for i := range 1 + next(6) {
		rule := ruleOf(fmt.Sprintf("R%d", i), "")
		for _, param := range []string{"a", "c", "m", "x"} {
			if i > 0 && next(3) == 0 {
				rule.Params = append(rule.Params, param)
			}
		}
		g.Rules = append(g.Rules, rule)
	}
	for i := range g.Rules {
		for range 1 + next(3) {
			alt, known := impl.Alt{}, slices.Clone(g.Rules[i].Params)
			for range next(5) {
				sym := someSym(next, g, known)
				alt.Syms = append(alt.Syms, sym)
				if sym.Bind != "" {
					known = append(known, sym.Bind)
				}
			}
			g.Rules[i].Alts = append(g.Rules[i].Alts, alt)
		}
	}
	return g
}

// spoil changes one thing of the grammar, which may make it wrong.
func spoil(next func(n int) int, g *impl.Grammar) {
	rule := &g.Rules[next(len(g.Rules))]
	alt := &rule.Alts[next(len(rule.Alts))]
	names := []string{"", "a", "b", "x", "R0", "R1", "1", "zzzzz"}
	if len(alt.Syms) > 0 {
		sym := &alt.Syms[next(len(alt.Syms))]
		switch next(6) {
		case 0:
			sym.Kind = next(6)
		case 1:
			sym.Text = names[next(len(names))]
		case 2:
			sym.Bind = names[next(len(names))]
		case 3:
			sym.Args = append(sym.Args, number(1))
		case 4:
			alt.Syms = append(alt.Syms, alt.Syms[next(len(alt.Syms))])
		case 5:
			slices.Reverse(alt.Syms)
		}
		return
	}
	switch next(4) {
	case 0:
		rule.Name = names[next(len(names))]
	case 1:
		rule.Params = append(rule.Params, names[next(len(names))])
	case 2:
		slices.Reverse(g.Rules)
	case 3:
		rule.Alts = slices.Repeat(rule.Alts, 1+next(5))
	}
}

func TestGrammarsOfManySeeds(t *testing.T) {
	const seeds = 6000
	right := [2]int{}
	for seed := range seeds {
		next := seeded(seed)
		g := someGrammar(next)
		for times := range 2 {
			want := slowGrammarOk(g)
			if got := impl.GrammarOk(g); got != want {
				t.Fatalf("seed %d: GrammarOk(%v) = %v", seed, g, got)
			}
			right[times] += oneOf(want)
			spoil(next, &g)
		}
	}
	for times, count := range right {
		if count < seeds/10 || count > seeds*9/10 {
			t.Errorf("spoilt %d times, %d of %d grammars are right", times, count, seeds)
		}
	}
}

func TestManySeedsStayRightWithARuleMore(t *testing.T) {
	tried := 0
	for seed := range 6000 {
		next := seeded(-1 - seed)
		g := someGrammar(next)
		if !impl.GrammarOk(g) {
			continue
		}
		// A rule of another grammar is right here, when it is right as the last one of this.
		for _, rule := range someGrammar(next).Rules {
			rule.Name = "More"
			longer := grammarOf(append(slices.Clone(g.Rules), rule)...)
			want := slowRuleOk(longer, rule)
			if got := impl.GrammarOk(longer); got != want {
				t.Fatalf("seed %d: GrammarOk(%v) = %v", seed, longer, got)
			}
			tried += oneOf(want)
			rule.Name = g.Rules[next(len(g.Rules))].Name
			refuseGrammar(t, "a Name that is there", grammarOf(append(slices.Clone(g.Rules), rule)...))
		}
	}
	if tried < 1000 {
		t.Errorf("only %d grammars had a right rule more", tried)
	}
}

// roomyList is the list in memory of its own, with room behind it that is filled.
func roomyList[T any](list []T, spare T) []T {
	all := append(slices.Clone(list), spare, spare, spare)
	return all[:len(list)]
}

// roomyGrammar has all its lists and texts in memory of its own, with room behind the lists that is filled.
func roomyGrammar(g impl.Grammar) impl.Grammar {
	rules := roomyList(g.Rules, ruleOf("Spare", "s", altOf(symText("s"))))
	for i := range rules {
		rule := &rules[i]
		rule.Name = strings.Clone(rule.Name)
		rule.Params = roomyList(rule.Params, "sp")
		rule.Alts = roomyList(rule.Alts, altOf(symText("s")))
		for j := range rule.Alts {
			alt := &rule.Alts[j]
			alt.Syms = roomyList(alt.Syms, symText("s"))
			for k := range alt.Syms {
				sym := &alt.Syms[k]
				sym.Text, sym.Bind = strings.Clone(sym.Text), strings.Clone(sym.Bind)
				sym.Args = roomyList(sym.Args, number(7))
				for l := range sym.Args {
					sym.Args[l], _ = roomyExpr(sym.Args[l])
				}
			}
		}
	}
	return impl.Grammar{Rules: rules}
}

// grammarPicture tells all that stands in the grammar, and in the room behind its lists.
func grammarPicture(g impl.Grammar) string {
	picture := ""
	for _, rule := range g.Rules[:cap(g.Rules)] {
		picture += fmt.Sprintf("%q %d %q %d\n", rule.Name, len(rule.Params), rule.Params[:cap(rule.Params)], len(rule.Alts))
		for _, alt := range rule.Alts[:cap(rule.Alts)] {
			for _, sym := range alt.Syms[:cap(alt.Syms)] {
				picture += fmt.Sprintf("  %d %d %q %q %d", len(alt.Syms), sym.Kind, sym.Text, sym.Bind, len(sym.Args))
				for _, arg := range sym.Args[:cap(sym.Args)] {
					picture += " " + pictureOf(arg.Nodes[:cap(arg.Nodes)])
				}
			}
		}
	}
	return picture
}

func TestGrammarsAreNotChanged(t *testing.T) {
	grammars := rightGrammars()
	grammars["nothing"] = impl.Grammar{}
	grammars["bound twice"] = oneRule(altOf(symBound("b", "D"), symBound("b", "D")))
	grammars["a Param bound"] = paramRule("a", altOf(symBound("b", "D"), symBound("a", "D")))
	grammars["Params out of order"] = paramRule("b a", altOf(symIf(twoNames(impl.ExAdd))))
	grammars["too many known"] = paramRule("a b c d e", altOf(symBound("f", "D"), symBound("g", "D")))
	grammars["too many rules"] = manyRules(31)
	for seed := range 300 {
		grammars[fmt.Sprint("seed ", seed)] = someGrammar(seeded(seed))
	}
	for what, plain := range grammars {
		g := roomyGrammar(plain)
		before := grammarPicture(g)
		right := impl.GrammarOk(g)
		impl.RuleAt(g, "R1")
		if after := grammarPicture(g); after != before {
			t.Fatalf("%s: the grammar is changed:\n%s\nwas\n%s", what, after, before)
		}
		if right != slowGrammarOk(plain) {
			t.Fatalf("%s: with spare room behind its lists GrammarOk(%v) = %v", what, plain, right)
		}
	}
}

// What stands in the room behind a list is not of it.
func TestRoomBehindListsIsNotLookedAt(t *testing.T) {
	params := []string{"a", "b", "c"}
	g := paramRule("", altOf(symIf(asked("b"))))
	g.Rules[1].Params = params[:1]
	refuseGrammar(t, "a name behind Params", g)
	g.Rules[1].Alts = []impl.Alt{altOf(symBound("b", "D"), symBound("c", "D"))}
	checkGrammar(t, "bound as those behind Params", g)
	rules := []impl.Rule{ruleOf("S", "", altOf(symCall("T"))), ruleOf("T", "", altOf())}
	refuseGrammar(t, "a call of a rule behind the list", impl.Grammar{Rules: rules[:1]})
	checkRuleAt(t, impl.Grammar{Rules: rules[:1]}, "T", -1)
}

func TestGrammarsAnswerTheSameAgain(t *testing.T) {
	wrong := oneRule(altOf(symBound("b", "D"), symBound("b", "D")))
	for range 50 {
		checkGrammar(t, "a length", lengthGrammar())
		refuseGrammar(t, "bound twice", wrong)
		checkGrammar(t, "bound", oneRule(altOf(symBound("b", "D"))))
		refuseGrammar(t, "not bound any more", oneRule(altOf(symIf(asked("b")))))
		checkRuleAt(t, wrong, "N", 2)
		checkRuleAt(t, lengthGrammar(), "N", -1)
	}
}
