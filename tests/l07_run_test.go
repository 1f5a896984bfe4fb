package tests

import (
	"fmt"
	"regexp"
	"slices"
	"strconv"
	"strings"
	"testing"
	"unsafe"

	"loop.example/g00243/impl"
)

var oneOrTwoFigures = regexp.MustCompile(`\A[0-9]{1,2}\z`)

func slowBindNum(s string) int {
	if oneOrTwoFigures.MatchString(s) {
		n, _ := strconv.Atoi(s)
		return n
	}
	return min(len(s), 99)
}

// slowRunner has all ends that came, in their order: the place of one there is its Rank.
type slowRunner struct {
	g     impl.Grammar
	text  string
	goals []impl.Goal
	came  [][2]int
}

func (s *slowRunner) endsOf(goal int) []int {
	ends := []int{}
	for _, c := range s.came {
		if c[0] == goal {
			ends = append(ends, c[1])
		}
	}
	slices.Sort(ends)
	return ends
}

func (s *slowRunner) goalAt(rule int, args []int, from int) int {
	for i, goal := range s.goals {
		if goal.Rule == rule && goal.From == from && slices.Equal(goal.Args, args) {
			return i
		}
	}
	s.goals = append(s.goals, impl.Goal{Rule: rule, Args: args, From: from})
	return len(s.goals) - 1
}

func slowArgs(sym impl.Sym, known []impl.Var, at int) ([]int, bool) {
	args := []int{}
	for _, arg := range sym.Args {
		num, ok := slowEval(arg, known, at)
		if !ok || num < 0 || num > 99 {
			return nil, false
		}
		args = append(args, num)
	}
	return args, true
}

// paths answers every place at which the Syms are done, one for each way to it.
func (s *slowRunner) paths(syms []impl.Sym, known []impl.Var, at int) []int {
	if len(syms) == 0 {
		return []int{at}
	}
	sym, rest := syms[0], s.text[at:]
	switch sym.Kind {
	case 1:
		if behind, ok := strings.CutPrefix(rest, sym.Text); ok {
			return s.paths(syms[1:], known, len(s.text)-len(behind))
		}
	case 2:
		if rest != "" && strings.Contains(slowSetBytes(sym.Text), rest[:1]) {
			return s.paths(syms[1:], known, at+1)
		}
	case 3:
		args, ok := slowArgs(sym, known, at)
		if !ok {
			return nil
		}
		found := []int{}
		for _, end := range s.endsOf(s.goalAt(impl.RuleAt(s.g, sym.Text), args, at)) {
			with := append(slices.Clone(known), impl.Var{Name: sym.Bind, Num: slowBindNum(s.text[at:end])})
			found = append(found, s.paths(syms[1:], with, end)...)
		}
		return found
	case 4:
		if num, ok := slowEval(sym.Args[0], known, at); ok && num != 0 {
			return s.paths(syms[1:], known, at)
		}
	}
	return nil
}

func (s *slowRunner) look(goal int) {
	rule := s.g.Rules[s.goals[goal].Rule]
	known := []impl.Var{}
	for i, param := range rule.Params {
		known = append(known, impl.Var{Name: param, Num: s.goals[goal].Args[i]})
	}
	done := map[int]bool{}
	for _, alt := range rule.Alts {
		for _, end := range s.paths(alt.Syms, known, s.goals[goal].From) {
			done[end] = true
		}
	}
	for end := range len(s.text) + 1 {
		if done[end] && !slices.Contains(s.came, [2]int{goal, end}) {
			s.came = append(s.came, [2]int{goal, end})
		}
	}
}

func slowStarts(g impl.Grammar, text, name string, args []int, from int) bool {
	if !slowGrammarOk(g) || len(text) > 12 || from < 0 || from > len(text) || slowParamsOf(g, name) != len(args) {
		return false
	}
	return !slices.ContainsFunc(args, func(arg int) bool { return arg < 0 || arg > 99 })
}

// slowRun looks at every goal in every round, until one of them brings nothing.
func slowRun(g impl.Grammar, text, name string, args []int, from int) (impl.Chart, bool) {
	if !slowStarts(g, text, name, args, from) {
		return impl.Chart{}, false
	}
	s := &slowRunner{g: g, text: text}
	s.goalAt(impl.RuleAt(g, name), args, from)
	for before := -1; before != len(s.goals)+len(s.came); {
		before = len(s.goals) + len(s.came)
		for i := 0; i < len(s.goals); i++ {
			if s.look(i); len(s.goals) > 300 {
				return impl.Chart{}, false
			}
		}
	}
	for i := range s.goals {
		s.goals[i].Ends = s.endsOf(i)
		for _, end := range s.goals[i].Ends {
			s.goals[i].Ranks = append(s.goals[i].Ranks, slices.Index(s.came, [2]int{i, end}))
		}
	}
	return impl.Chart{Goals: s.goals}, true
}

// chartPicture is a line of each goal: the rule's Name, its Args, its From, and each end with its Rank.
func chartPicture(g impl.Grammar, c impl.Chart) string {
	lines := []string{}
	for _, goal := range c.Goals {
		if len(goal.Ends) != len(goal.Ranks) {
			return fmt.Sprintf("%d ends, %d ranks", len(goal.Ends), len(goal.Ranks))
		}
		line := g.Rules[goal.Rule].Name + strings.Trim(fmt.Sprint(goal.Args), "[]") + "@" + fmt.Sprint(goal.From)
		for i, end := range goal.Ends {
			line += fmt.Sprintf(" %d#%d", end, goal.Ranks[i])
		}
		lines = append(lines, line)
	}
	return strings.Join(lines, "\n")
}

// checkRun holds RunGoal, EndsOf and Accepts against the slow reading, and answers the chart.
func checkRun(t *testing.T, g impl.Grammar, text, name string, args []int, from int) (impl.Chart, bool) {
	t.Helper()
	got, ok := impl.RunGoal(g, text, name, args, from)
	want, wantOk := slowRun(g, text, name, args, from)
	if ok != wantOk || !ok && len(got.Goals) > 0 {
		t.Fatalf("RunGoal(%v, %q, %q, %v, %d) = %v, %v, not %v", g, text, name, args, from, got, ok, wantOk)
	}
	wantEnds := []int{}
	if ok {
		if got, want := chartPicture(g, got), chartPicture(g, want); got != want {
			t.Fatalf("RunGoal(%v, %q, %q, %v, %d):\n%s\nnot\n%s", g, text, name, args, from, got, want)
		}
		checkGrounds(t, g, text, got)
		wantEnds = want.Goals[0].Ends
	}
	if ends := impl.EndsOf(g, text, name, args, from); !slices.Equal(ends, wantEnds) {
		t.Fatalf("EndsOf(%v, %q, %q, %v, %d) = %v, not %v", g, text, name, args, from, ends, wantEnds)
	}
	if len(g.Rules) > 0 && name == g.Rules[0].Name && from == 0 && len(args) == 0 {
		if got := impl.Accepts(g, text); got != slices.Contains(wantEnds, len(text)) {
			t.Fatalf("Accepts(%v, %q) = %v", g, text, got)
		}
	}
	return got, ok
}

// checkGrounds holds the promise by the chart alone: what Alts may take with all ends that there are is an end, and each end is taken by an Alt with ends that came ahead of it.
func checkGrounds(t *testing.T, g impl.Grammar, text string, c impl.Chart) {
	t.Helper()
	ranks := map[int]bool{}
	for _, goal := range c.Goals {
		if all := groundsOf(g, text, c, goal, 1<<30); !slices.Equal(all, goal.Ends) {
			t.Fatalf("%v, %q: goal %v may be taken to %v\n%s", g, text, goal, all, chartPicture(g, c))
		}
		for i, end := range goal.Ends {
			if ranks[goal.Ranks[i]] || !slices.Contains(groundsOf(g, text, c, goal, goal.Ranks[i]), end) {
				t.Fatalf("%v, %q: goal %v has the end %d without a ground\n%s", g, text, goal, end, chartPicture(g, c))
			}
			ranks[goal.Ranks[i]] = true
		}
	}
	for rank := range len(ranks) {
		if !ranks[rank] {
			t.Fatalf("%v, %q: no end has the rank %d\n%s", g, text, rank, chartPicture(g, c))
		}
	}
}

// groundsOf are the places to which a goal's Alts may be taken with the ends of a lesser rank, ascending.
func groundsOf(g impl.Grammar, text string, c impl.Chart, goal impl.Goal, rank int) []int {
	s := &slowRunner{g: g, text: text, goals: slices.Clone(c.Goals)}
	for i, other := range c.Goals {
		for j, end := range other.Ends {
			if other.Ranks[j] < rank {
				s.came = append(s.came, [2]int{i, end})
			}
		}
	}
	known := []impl.Var{}
	for i, param := range g.Rules[goal.Rule].Params {
		known = append(known, impl.Var{Name: param, Num: goal.Args[i]})
	}
	ends := []int{}
	for _, alt := range g.Rules[goal.Rule].Alts {
		ends = append(ends, s.paths(alt.Syms, known, goal.From)...)
	}
	slices.Sort(ends)
	return slices.Compact(ends)
}

// checkChart wants the chart of the first rule from 0 on to be just what is told.
func checkChart(t *testing.T, what string, g impl.Grammar, text string, want ...string) {
	t.Helper()
	c, ok := checkRun(t, g, text, g.Rules[0].Name, nil, 0)
	if got := chartPicture(g, c); !ok || got != strings.Join(want, "\n") {
		t.Fatalf("%s, %q: %v\n%s\nnot\n%s", what, text, ok, got, strings.Join(want, "\n"))
	}
}

// checkEnds wants the first rule, from 0 on, to have just these ends.
func checkEnds(t *testing.T, what string, g impl.Grammar, text string, want ...int) {
	t.Helper()
	checkRun(t, g, text, g.Rules[0].Name, nil, 0)
	if got := impl.EndsOf(g, text, g.Rules[0].Name, nil, 0); !slices.Equal(got, want) {
		t.Fatalf("%s, %q: %v, not %v", what, text, got, want)
	}
	if got := impl.Accepts(g, text); got != slices.Contains(want, len(text)) {
		t.Fatalf("%s, %q: accepted %v", what, text, got)
	}
}

func refuseRun(t *testing.T, what string, g impl.Grammar, text, name string, args []int, from int) {
	t.Helper()
	if _, ok := checkRun(t, g, text, name, args, from); ok {
		t.Fatalf("%s: RunGoal(%v, %q, %q, %v, %d) = true", what, g, text, name, args, from)
	}
}

func takeRun(t *testing.T, what string, g impl.Grammar, text, name string, args []int, from int) {
	t.Helper()
	if _, ok := checkRun(t, g, text, name, args, from); !ok {
		t.Fatalf("%s: RunGoal(%v, %q, %q, %v, %d) = false", what, g, text, name, args, from)
	}
}

func same(left, right impl.ExNode) impl.Expr { return exprOf(left, right, pair(impl.ExSame, 0, 1)) }

func plus(name string, n int) impl.Expr { return exprOf(named(name), num(n), pair(impl.ExAdd, 0, 1)) }

func less(name string, n int) impl.Expr { return exprOf(named(name), num(n), pair(impl.ExLess, 0, 1)) }

func TestBindNumOfFigures(t *testing.T) {
	for n := range 100 {
		for _, s := range []string{fmt.Sprint(n), fmt.Sprintf("%02d", n)} {
			if got := impl.BindNum(s); got != n {
				t.Errorf("BindNum(%q) = %d", s, got)
			}
		}
	}
	for _, s := range []string{"000", "001", "100", "123", "999", "012"} {
		if got := impl.BindNum(s); got != 3 {
			t.Errorf("BindNum(%q) = %d", s, got)
		}
	}
}

func TestBindNumOfLengths(t *testing.T) {
	if got := impl.BindNum(""); got != 0 {
		t.Errorf("BindNum of nothing = %d", got)
	}
	for n := range 300 {
		for _, b := range []string{"a", "\x00", "\xff", "7"} {
			s := strings.Repeat(b, n)
			if got := impl.BindNum(s); got != slowBindNum(s) || (n > 2 || b != "7") && got != min(n, 99) {
				t.Errorf("BindNum of %d times %q = %d", n, b, got)
			}
		}
	}
}

// Each two bytes there are, and each one.
func TestBindNumOfBytes(t *testing.T) {
	for a := range 256 {
		for b := range 256 {
			s := string([]byte{byte(a), byte(b)})
			for _, s := range []string{s, s[:1], s + "1", "1" + s} {
				if got := impl.BindNum(s); got != slowBindNum(s) {
					t.Fatalf("BindNum(%q) = %d", s, got)
				}
			}
		}
	}
}

func TestEachKindRunsByItself(t *testing.T) {
	for _, text := range []string{"", "a", "ab", "b", "abab", "+", "++", "5", "55", "aba", "\x00", "\xff\xff"} {
		for _, sym := range []string{"a", "ab", "b", "+", "aa", "abab", "abababab"} {
			want := []int{}
			if strings.HasPrefix(text, sym) {
				want = []int{len(sym)}
			}
			checkEnds(t, "a text", grammarOf(ruleOf("S", "", altOf(symText(sym)))), text, want...)
		}
		for _, set := range []string{"a", "a-z", "0-9", "b-z5", "a-z0-9"} {
			want := []int{}
			if text != "" && strings.Contains(slowSetBytes(set), text[:1]) {
				want = []int{1}
			}
			checkEnds(t, "a set", grammarOf(ruleOf("S", "", altOf(symSet(set)))), text, want...)
		}
		checkEnds(t, "an Alt without Syms", grammarOf(ruleOf("S", "", altOf())), text, 0)
		checkEnds(t, "what is 1", grammarOf(ruleOf("S", "", altOf(symIf(number(1))))), text, 0)
		checkEnds(t, "what is 99", grammarOf(ruleOf("S", "", altOf(symIf(number(99))))), text, 0)
		checkEnds(t, "what is below 0", grammarOf(ruleOf("S", "", altOf(symIf(least())))), text, 0)
		checkEnds(t, "what is 0", grammarOf(ruleOf("S", "", altOf(symIf(number(0))))), text)
		checkEnds(t, "a call", grammarOf(ruleOf("S", "", altOf(symCall("T"))), ruleOf("T", "", altOf())), text, 0)
	}
	checkEnds(t, "each byte of a set", grammarOf(ruleOf("S", "", altOf(symSet("b-d7")))), "d7", 1)
}

func TestEachKindRunsBehindOthers(t *testing.T) {
	kinds := []impl.Sym{
		symText("a"), symText("ab"), symSet("a-c"), symSet("0-9"), symCall("D"), symCall("N", number(1)), symCall("N", number(0)), symCall("M"),
		symBound("b", "M"), symIf(number(1)), symIf(number(0)), symIf(exprOf(hereNode())), symIf(same(hereNode(), num(2))),
	}
	for _, first := range kinds {
		for _, second := range kinds {
			for _, third := range kinds {
				if first.Bind != "" && (first.Bind == second.Bind || first.Bind == third.Bind) || second.Bind != "" && second.Bind == third.Bind {
					continue
				}
				g := withHelpers(ruleOf("S", "", altOf(first, second, third)), ruleOf("M", "", altOf(symText("a")), altOf(), altOf(symText("ab"))))
				for _, text := range []string{"ab1", "aab", "a1a", "abab"} {
					checkRun(t, g, text, "S", nil, 0)
				}
			}
		}
	}
	g := oneRule(altOf(symText("ab"), symSet("0-9"), symCall("D"), symIf(number(1)), symText("+")))
	checkEnds(t, "each Kind", g, "ab12+", 5)
	checkEnds(t, "each Kind, and more", g, "ab12+ab", 5)
	checkEnds(t, "one figure", g, "ab1+")
	checkEnds(t, "cut", g, "ab12")
}

// In each of these a rule is held, over every text, against what it is known to take.
func TestWhatIsTakenIsKnown(t *testing.T) {
	balanced := func(s string) bool {
		n := len(s) / 2
		return s == strings.Repeat("a", n)+strings.Repeat("b", n)
	}
	palindrome := func(s string) bool {
		back := []byte(s)
		slices.Reverse(back)
		return s == string(back)
	}
	dyck := func(s string) bool {
		for strings.Contains(s, "ab") {
			s = strings.ReplaceAll(s, "ab", "")
		}
		return s == ""
	}
	many := regexp.MustCompile(`\Aa+\z`)
	ended := regexp.MustCompile(`\Aba*\z`)
	s := symCall("S")
	a, b := symText("a"), symText("b")
	cases := []struct {
		what  string
		g     impl.Grammar
		holds func(s string) bool
	}{
		{"within", grammarOf(ruleOf("S", "", altOf(a, s, b), altOf())), balanced},
		{"palindromes", grammarOf(ruleOf("S", "", altOf(a, s, a), altOf(b, s, b), altOf(), altOf(a), altOf(b))), palindrome},
		{"both sides", grammarOf(ruleOf("S", "", altOf(s, s), altOf(a, s, b), altOf())), dyck},
		{"left", grammarOf(ruleOf("S", "", altOf(s, a), altOf(b))), ended.MatchString},
		{"left, first last", grammarOf(ruleOf("S", "", altOf(b), altOf(s, a))), ended.MatchString},
		{"right", grammarOf(ruleOf("S", "", altOf(a, s), altOf(a))), many.MatchString},
		{"both sides, without nothing", grammarOf(ruleOf("S", "", altOf(s, s), altOf(a))), many.MatchString},
		{"a circle beside", grammarOf(ruleOf("S", "", altOf(s), altOf(s, s, s), altOf(a))), func(s string) bool { return len(s)%2 == 1 && many.MatchString(s) }},
		{"left through another", grammarOf(ruleOf("S", "", altOf(symCall("T"), a), altOf(b)), ruleOf("T", "", altOf(s))), ended.MatchString},
		{"a circle alone", grammarOf(ruleOf("S", "", altOf(s))), func(string) bool { return false }},
		{"no end ever", grammarOf(ruleOf("S", "", altOf(a, s))), func(string) bool { return false }},
	}
	for _, c := range cases {
		for length := range 8 {
			textsOf("ab", length, func(text string) {
				if got := impl.Accepts(c.g, text); got != c.holds(text) {
					t.Fatalf("%s: Accepts(%q) = %v", c.what, text, got)
				}
				for from := range len(text) + 1 {
					want := []int{}
					for to := from; to <= len(text); to++ {
						if c.holds(text[from:to]) {
							want = append(want, to)
						}
					}
					if got := impl.EndsOf(c.g, text, "S", nil, from); !slices.Equal(got, want) {
						t.Fatalf("%s: EndsOf(%q, %d) = %v, not %v", c.what, text, from, got, want)
					}
				}
				if length < 5 {
					checkRun(t, c.g, text, "S", nil, 0)
				}
			})
		}
	}
}

func TestALengthTellsWhatIsToCome(t *testing.T) {
	g := lengthGrammar()
	for n := range 10 {
		for more := range 11 {
			text := fmt.Sprint(n) + strings.Repeat("x", more)
			want := []int{}
			if more >= n {
				want = []int{1 + n}
			}
			checkEnds(t, "a length", g, text, want...)
		}
	}
	checkChart(t, "a length", g, "2ab", "S@0 3#4", "D@0 1#0", "Row2@1 3#3", "Row1@2 3#2", "Row0@3 3#1")
	checkChart(t, "no length", g, "x", "S@0", "D@0")
}

func TestANumberTellsHowTight(t *testing.T) {
	g := climbGrammar()
	for _, text := range []string{"1", "1+2", "1+2+3", "1^2^3", "1^2+3^4", "(1+2)^3", "((1))", "1+(2+3)^4+5"} {
		if !impl.Accepts(g, text) {
			t.Errorf("%q is not accepted", text)
		}
		checkRun(t, g, text, "S", nil, 0)
	}
	for _, text := range []string{"", "+", "1+", "^2", "(1", "1)", "12", "(1+2)^", "()"} {
		if impl.Accepts(g, text) {
			t.Errorf("%q is accepted", text)
		}
		checkRun(t, g, text, "S", nil, 0)
	}
}

func TestChartsThatAreKnown(t *testing.T) {
	s := symCall("S")
	checkChart(t, "within", grammarOf(ruleOf("S", "", altOf(symText("a"), s, symText("b")), altOf())), "ab",
		"S@0 0#0 2#2", "S@1 1#1")
	checkChart(t, "within, longer", grammarOf(ruleOf("S", "", altOf(symText("a"), s, symText("b")), altOf())), "aabb",
		"S@0 0#0 4#4", "S@1 1#1 3#3", "S@2 2#2")
	checkChart(t, "left", grammarOf(ruleOf("S", "", altOf(s, symText("a")), altOf(symText("a")))), "aaa",
		"S@0 1#0 2#1 3#2")
	checkChart(t, "right", grammarOf(ruleOf("S", "", altOf(symText("a"), s), altOf(symText("a")))), "aaa",
		"S@0 1#0 2#3 3#5", "S@1 2#1 3#4", "S@2 3#2", "S@3")
	checkChart(t, "both sides", grammarOf(ruleOf("S", "", altOf(s, s), altOf(symText("a")))), "aa",
		"S@0 1#0 2#2", "S@1 2#1", "S@2")
	checkChart(t, "a circle", grammarOf(ruleOf("S", "", altOf(s))), "a", "S@0")
	checkChart(t, "a circle of two", grammarOf(ruleOf("S", "", altOf(symCall("T")), altOf(symText("a"))), ruleOf("T", "", altOf(s), altOf())), "a",
		"S@0 0#3 1#0", "T@0 0#1 1#2")
	checkChart(t, "nothing", grammarOf(ruleOf("S", "", altOf())), "", "S@0 0#0")
	checkChart(t, "no end", grammarOf(ruleOf("S", "", altOf(symText("b")))), "a", "S@0")
}

func TestEndsOfOneLookAscend(t *testing.T) {
	g := grammarOf(ruleOf("S", "", altOf(symText("abc")), altOf(symText("a")), altOf(), altOf(symText("ab")), altOf(symText("a"))))
	checkChart(t, "four at once", g, "abcd", "S@0 0#0 1#1 2#2 3#3")
	// An end that comes later stands ahead of one that came first.
	g = grammarOf(ruleOf("S", "", altOf(symText("ab")), altOf(symCall("T"))), ruleOf("T", "", altOf(symText("a"))))
	checkChart(t, "a lesser one later", g, "ab", "S@0 1#2 2#0", "T@0 1#1")
	g = grammarOf(ruleOf("S", "", altOf(symText("ab")), altOf(symCall("T"))), ruleOf("T", "", altOf(symText("a")), altOf(), altOf(symText("abc"))))
	checkChart(t, "two lesser ones and a greater one later", g, "abc", "S@0 0#4 1#5 2#0 3#6", "T@0 0#1 1#2 3#3")
	// An end that an earlier look had is not one again.
	g = grammarOf(ruleOf("S", "", altOf(symText("a")), altOf(symCall("T"))), ruleOf("T", "", altOf(symText("a"))))
	checkChart(t, "the same end twice", g, "a", "S@0 1#0", "T@0 1#1")
}

// A look goes by what was known when it began, also of its own goal; the next look, in the same round, goes by that too.
func TestLooksGoByWhatIsKnownThen(t *testing.T) {
	s := symCall("S")
	g := grammarOf(ruleOf("S", "", altOf(symText("a")), altOf(s, symText("a")), altOf(symCall("T"))), ruleOf("T", "", altOf()))
	checkChart(t, "its own end", g, "aa", "S@0 0#2 1#0 2#3", "T@0 0#1")
	g = grammarOf(
		ruleOf("S", "", altOf(symText("a")), altOf(symCall("T")), altOf(symCall("U"))),
		ruleOf("T", "", altOf(s, symText("b"))),
		ruleOf("U", "", altOf()))
	checkChart(t, "an end of this round", g, "ab", "S@0 0#3 1#0 2#4", "T@0 2#1", "U@0 0#2")
}

func TestNewGoalsComeInTheirOrder(t *testing.T) {
	call := symCall
	g := grammarOf(
		ruleOf("S", "", altOf(call("A"), call("B"), call("C"))),
		ruleOf("A", "", altOf(symText("a")), altOf(call("A2"))),
		ruleOf("A2", "", altOf(symText("aa"))),
		ruleOf("B", "", altOf(symSet("ab"))),
		ruleOf("C", "", altOf(symText("b"))))
	// What is behind the lesser end is met ahead of what is at the greater one.
	checkChart(t, "behind each end", g, "aab", "S@0 3#6", "A@0 1#0 2#2", "A2@0 2#1", "B@1 2#3", "C@2 3#4", "B@2 3#5", "C@3")
	g = grammarOf(
		ruleOf("S", "", altOf(symText("b"), call("D")), altOf(call("C"), call("A")), altOf(call("B"), call("C")), altOf(call("D"))),
		ruleOf("A", "", altOf()), ruleOf("B", "", altOf()), ruleOf("C", "", altOf()), ruleOf("D", "", altOf()))
	checkChart(t, "by Alts", g, "a", "S@0 0#3", "C@0 0#0", "B@0 0#1", "D@0 0#2", "A@0 0#4")
	g = grammarOf(
		ruleOf("S", "", altOf(symText("a"), call("B")), altOf(call("A"))),
		ruleOf("A", "", altOf(call("B")), altOf(call("C"))),
		ruleOf("B", "", altOf(symText("a"), call("C")), altOf(symText("a"))),
		ruleOf("C", "", altOf()))
	checkChart(t, "of each goal of the round", g, "aa", "S@0 0#8 1#9 2#5", "B@1 2#0", "A@0 0#6 1#7", "C@2 2#1", "B@0 1#2", "C@0 0#3", "C@1 1#4")
}

func TestParamsAreTheArgs(t *testing.T) {
	// R takes nothing when its Params are just 3, 1 and 2, each in its own place.
	both := exprOf(named("a"), num(3), pair(impl.ExSame, 0, 1), named("b"), num(1), pair(impl.ExSame, 3, 4), pair(impl.ExAnd, 2, 5), named("c"), num(2), pair(impl.ExSame, 7, 8), pair(impl.ExAnd, 6, 9))
	g := grammarOf(
		ruleOf("S", "", altOf(symText("a"), symCall("R", number(3), number(1), number(2)), symText("b"))),
		ruleOf("R", "a b c", altOf(symIf(both))))
	checkChart(t, "in their order", g, "ab", "S@0 2#1", "R3 1 2@1 1#0")
	for _, args := range [][]int{{3, 1, 2}, {1, 3, 2}, {2, 1, 3}, {3, 2, 1}, {0, 0, 0}, {99, 99, 99}} {
		takeRun(t, "three args", g, "ab", "R", args, 1)
		if got := len(impl.EndsOf(g, "ab", "R", args, 2)); got != oneOf(slices.Equal(args, []int{3, 1, 2})) {
			t.Errorf("R of %v has %d ends", args, got)
		}
	}
	// Params handed on, turned round: the same rule, other goals.
	swap := grammarOf(
		ruleOf("S", "", altOf(symCall("R", number(1), number(2)))),
		ruleOf("R", "a b", altOf(symIf(twoNames(impl.ExLess)), symText("a"), symCall("R", asked("b"), asked("a"))), altOf(symIf(exprOf(named("b"), named("a"), pair(impl.ExLess, 0, 1))), symText("b"))))
	checkChart(t, "turned round", swap, "ab", "S@0 2#2", "R1 2@0 2#1", "R2 1@1 2#0")
}

func TestBoundNumbersAreAskedFor(t *testing.T) {
	any := ruleOf("Any", "", altOf(), altOf(symSet("a-z0-9"), symCall("Any")))
	is := func(n int) impl.Grammar {
		return grammarOf(ruleOf("S", "", altOf(symBound("n", "Any"), symText("+"), symIf(same(named("n"), num(n))))), any)
	}
	handed := func(n int) impl.Grammar {
		return grammarOf(
			ruleOf("S", "", altOf(symBound("n", "Any"), symText("+"), symCall("Is", asked("n")))), any,
			ruleOf("Is", "m", altOf(symIf(same(named("m"), num(n))))))
	}
	for took, want := range map[string]int{"": 0, "0": 0, "7": 7, "07": 7, "70": 70, "99": 99, "123": 3, "a": 1, "aa": 2, "1a": 2, "a1": 2, "00000": 5, "abcdefghijk": 11} {
		for n := range 100 {
			ends := []int{}
			if n == want {
				ends = []int{len(took) + 1}
			}
			if n%10 == 0 || n == want {
				checkEnds(t, "asked in an SyIf", is(n), took+"+", ends...)
				checkEnds(t, "asked in an Arg", handed(n), took+"+", ends...)
			}
		}
	}
	checkChart(t, "a goal of each number", grammarOf(ruleOf("S", "", altOf(symBound("n", "Any"), symCall("Is", asked("n")))), any, ruleOf("Is", "m", altOf(symText("b")))), "12b",
		"S@0 3#11", "Any@0 0#0 1#4 2#7 3#9", "Any@1 1#1 2#5 3#8", "Any@2 2#2 3#6", "Any@3 3#3", "Is0@0", "Is1@1", "Is12@2 3#10", "Is3@3")
}

// What is bound is told by name, in whatever order, beside Params, and each Alt binds for itself alone.
func TestManyAreBoundAtOnce(t *testing.T) {
	sum := exprOf(named("a"), num(10), pair(impl.ExMul, 0, 1), named("b"), pair(impl.ExAdd, 2, 3), num(10), pair(impl.ExMul, 4, 5), named("c"), pair(impl.ExAdd, 6, 7), num(10), pair(impl.ExMul, 8, 9), named("d"), pair(impl.ExAdd, 10, 11))
	wanted := more(sum, num(62), num(23), pair(impl.ExMul, 13, 14), num(1), pair(impl.ExAdd, 15, 16), pair(impl.ExSame, 12, 17))
	g := withHelpers(
		ruleOf("S", "", altOf(symCall("R", number(4)))),
		ruleOf("R", "b", altOf(symBound("d", "D"), symBound("a", "D"), symText("+"), symBound("c", "D"), symIf(wanted))))
	// 62 * 23 + 1 is 1427: a is 1, b (the Param) 4, c 2, and d 7.
	checkEnds(t, "in their places", g, "71+2", 4)
	for _, text := range []string{"17+2", "12+7", "27+1", "72+1", "21+7"} {
		checkEnds(t, "in others' places", g, text)
	}
	six := oneRule(altOf(symBound("f", "D"), symBound("e", "D"), symBound("d", "D"), symBound("c", "D"), symBound("b", "D"), symBound("a", "D"),
		symIf(exprOf(named("f"), named("a"), pair(impl.ExLess, 0, 1))), symText("+")))
	checkEnds(t, "six", six, "123456+", 7)
	checkEnds(t, "six the other way", six, "654321+")
	each := oneRule(altOf(symBound("a", "D"), symIf(same(named("a"), num(1)))), altOf(symBound("a", "D"), symBound("b", "D"), symIf(same(named("a"), num(2)))))
	checkEnds(t, "the first Alt's", each, "12", 1)
	checkEnds(t, "the second Alt's", each, "21", 2)
}

// Ways that come together at one place are gone on with each by itself, when what they bound is not the same.
func TestWaysThatMeetWithOtherNumbers(t *testing.T) {
	any := ruleOf("Any", "", altOf(), altOf(symText("a"), symCall("Any")))
	for n := range 6 {
		g := grammarOf(ruleOf("S", "", altOf(symBound("n", "Any"), symCall("Any"), symIf(same(named("n"), num(n))), symText("b"))), any)
		want := []int{}
		if n <= 4 {
			want = []int{5}
		}
		checkEnds(t, "one number of many", g, "aaaab", want...)
		g = grammarOf(ruleOf("S", "", altOf(symBound("n", "Any"), symBound("m", "Any"), symText("b"), symIf(exprOf(named("n"), num(n), pair(impl.ExSame, 0, 1), named("m"), num(4-min(n, 4)), pair(impl.ExSame, 3, 4), pair(impl.ExAnd, 2, 5))))), any)
		checkEnds(t, "two numbers of many", g, "aaaab", want...)
		// The last that is bound is always the same; the first one is not.
		g = grammarOf(ruleOf("S", "", altOf(symBound("n", "Any"), symCall("Any"), symBound("m", "One"), symText("b"), symIf(same(named("n"), num(n))))), any, ruleOf("One", "", altOf(symText("a"))))
		want = []int{}
		if n <= 3 {
			want = []int{5}
		}
		checkEnds(t, "a number of many, and one that is the same", g, "aaaab", want...)
	}
	// The Args of a later call are of each way's own number.
	g := grammarOf(ruleOf("S", "", altOf(symBound("n", "Any"), symCall("Any"), symText("b"), symCall("Is", asked("n")))), any, ruleOf("Is", "n", altOf()))
	c, _ := checkRun(t, g, "aab", "S", nil, 0)
	if got := strings.Count(chartPicture(g, c), "Is"); got != 3 {
		t.Errorf("%d goals of Is", got)
	}
}

func TestCallsAheadLaterAndOfItself(t *testing.T) {
	alts := []impl.Alt{altOf(symText("a"), symCall("S"), symText("b")), altOf(symText("a"), symCall("T"), symText("b")), altOf(symText("a"), symCall("U"), symText("b")), altOf(symText("c"))}
	for at := range 3 {
		for to := range 3 {
			g := grammarOf(ruleOf("S", "", alts[3]), ruleOf("T", "", alts[3]), ruleOf("U", "", alts[3]))
			g.Rules[at].Alts = []impl.Alt{alts[to], alts[3]}
			name := g.Rules[at].Name
			for _, text := range []string{"c", "acb", "aacbb", "ac", "cb"} {
				takeRun(t, "a call", g, text, name, nil, 0)
				want := text == "c" || text == "acb" || text == "aacbb" && at == to
				if got := slices.Contains(impl.EndsOf(g, text, name, nil, 0), len(text)); got != want {
					t.Errorf("from %d to %d: %q %v", at, to, text, got)
				}
			}
		}
	}
}

func TestTheSameGoalIsOneGoal(t *testing.T) {
	n := func(of int) impl.Sym { return symCall("N", number(of)) }
	g := grammarOf(ruleOf("S", "", altOf(n(1), n(1), n(2), n(1)), altOf(n(2)), altOf(symText("a"), n(1), n(3)), altOf(n(1))), ruleOf("N", "n", altOf()))
	checkChart(t, "met again", g, "a", "S@0 0#3 1#5", "N1@0 0#0", "N2@0 0#1", "N1@1 1#2", "N3@1 1#4")
	// The first goal, too.
	g = grammarOf(ruleOf("S", "", altOf(symCall("T"), symText("a")), altOf(symText("b"))), ruleOf("T", "", altOf(symCall("S"))))
	checkChart(t, "the first one again", g, "baa", "S@0 1#0 2#2 3#4", "T@0 1#1 2#3 3#5")
	c, ok := checkRun(t, g, "baa", "T", nil, 0)
	if got := chartPicture(g, c); !ok || got != "T@0 1#1 2#3 3#5\nS@0 1#0 2#2 3#4" {
		t.Errorf("from T on:\n%s", got)
	}
	// Args that are told one behind the other are not the same.
	g = grammarOf(ruleOf("S", "", altOf(symCall("P", number(1), number(12))), altOf(symCall("P", number(11), number(2))), altOf(symCall("P", number(1), number(12)))), ruleOf("P", "a b", altOf(symIf(asked("a")))))
	checkChart(t, "unlike Args", g, "", "S@0 0#2", "P1 12@0 0#0", "P11 2@0 0#1")
	// Rules with no Params, with 0 as one, and with two are unlike goals.
	g = grammarOf(ruleOf("S", "", altOf(symCall("P", number(0))), altOf(symCall("Q", number(0), number(0))), altOf(symCall("T"))), ruleOf("P", "a", altOf()), ruleOf("Q", "a b", altOf()), ruleOf("T", "", altOf()))
	checkChart(t, "unlike rules", g, "", "S@0 0#3", "P0@0 0#0", "Q0 0@0 0#1", "T@0 0#2")
}

// Ends come late: what waits for them, far and near, goes on all the same.
func TestEndsThatComeLate(t *testing.T) {
	call := symCall
	// Each end of T waits for one more of itself, and S, which was looked at ahead of it, for each of those.
	g := grammarOf(ruleOf("S", "", altOf(call("T"), symText("b"))), ruleOf("T", "", altOf(call("T"), symText("a")), altOf(symText("a"))))
	checkChart(t, "of a later look", g, "aaab", "S@0 4#3", "T@0 1#0 2#1 3#2")
	// U is known to have no end, and has one when T does.
	g = grammarOf(
		ruleOf("S", "", altOf(call("U"), symText("c"))),
		ruleOf("U", "", altOf(call("T"), call("V"))),
		ruleOf("T", "", altOf(call("W"))),
		ruleOf("V", "", altOf(symText("b"))),
		ruleOf("W", "", altOf(symText("a"))))
	checkChart(t, "of a later round", g, "abc", "S@0 3#4", "U@0 2#3", "T@0 1#1", "W@0 1#0", "V@1 2#2")
	// Two that wait for each other.
	g = grammarOf(
		ruleOf("S", "", altOf(call("T"), symText("a")), altOf(symText("a"))),
		ruleOf("T", "", altOf(call("S"), symText("b")), altOf(symText("b"))))
	checkChart(t, "each of the other", g, "abab", "S@0 1#0 3#2", "T@0 2#1 4#3")
	// A goal that is met again in a later Alt, at a place of its own that comes late.
	for depth := 1; depth < 25; depth++ {
		long := manyRules(depth)
		long.Rules[0].Alts = append(long.Rules[0].Alts, altOf(symText("b"), symCall(long.Rules[depth-1].Name), symText("c")))
		for i := range depth - 1 {
			long.Rules[i].Alts = long.Rules[i].Alts[1:]
		}
		checkRun(t, long, "ba", "R0", nil, 0)
		checkRun(t, long, "bac", "R0", nil, 0)
		checkRun(t, long, "ab", "R0", nil, 1)
	}
}

// The deeper a goal is, the earlier its end comes: one round for each.
func TestALongRowOfGoals(t *testing.T) {
	g := countGrammar()
	c, ok := impl.RunGoal(g, "z", "C", []int{0, 0}, 0)
	if !ok || len(c.Goals) != 300 {
		t.Fatalf("%d goals, %v", len(c.Goals), ok)
	}
	for i, goal := range c.Goals {
		if want := (impl.Goal{Rule: 1, Args: []int{i / 100, i % 100}, From: 0, Ends: []int{1}, Ranks: []int{299 - i}}); fmt.Sprint(goal) != fmt.Sprint(want) {
			t.Fatalf("goal %d is %v, not %v", i, goal, want)
		}
	}
}

// countGrammar has C, whose goal of a and b has those of all greater numbers below it: of 0 and 0 it is 300 in all. The last one takes a z.
func countGrammar(alts ...impl.Alt) impl.Grammar {
	last := exprOf(named("b"), num(99), pair(impl.ExSame, 0, 1), named("a"), num(2), pair(impl.ExLess, 3, 4), pair(impl.ExAnd, 2, 5))
	end := exprOf(named("b"), num(99), pair(impl.ExSame, 0, 1), named("a"), num(2), pair(impl.ExSame, 3, 4), pair(impl.ExAnd, 2, 5))
	return withHelpers(
		ruleOf("S", "", append(alts, altOf(symText("y")))...),
		ruleOf("C", "a b",
			altOf(symIf(less("b", 99)), symCall("C", asked("a"), plus("b", 1))),
			altOf(symIf(last), symCall("C", plus("a", 1), number(0))),
			altOf(symIf(end), symText("z"))))
}

func TestAsManyGoalsAsThereMayBe(t *testing.T) {
	t.Parallel()
	g := countGrammar()
	for _, b := range []int{0, 1, 2, 50, 99} {
		c, ok := impl.RunGoal(g, "z", "C", []int{0, b}, 0)
		if !ok || len(c.Goals) != 300-b || !slices.Equal(c.Goals[0].Ends, []int{1}) {
			t.Errorf("from %d on: %d goals, %v", b, len(c.Goals), ok)
		}
	}
	takeRun(t, "300 goals, none of which ends", g, "y", "C", []int{0, 0}, 0)
	takeRun(t, "one and 299", countGrammar(altOf(symCall("C", number(0), number(1)))), "z", "S", nil, 0)
	takeRun(t, "300, met again", countGrammar(altOf(symCall("C", number(0), number(1))), altOf(symCall("C", number(0), number(2))), altOf(symCall("S"))), "z", "S", nil, 0)
	refuseRun(t, "one and 300", countGrammar(altOf(symCall("C", number(0), number(0)))), "z", "S", nil, 0)
	refuseRun(t, "one, 299 and one at once", countGrammar(altOf(symCall("D"), symText("a")), altOf(symCall("C", number(0), number(1)))), "z", "S", nil, 0)
	refuseRun(t, "299, and one more behind", countGrammar(altOf(symCall("C", number(0), number(1))), altOf(symText("z"), symCall("D"))), "z", "S", nil, 0)
	// Only when the deepest one has ended, a round for each, is there one more.
	late := countGrammar(altOf(symCall("C", number(0), number(1)), symCall("D")))
	refuseRun(t, "one more, late", late, "z", "S", nil, 0)
	takeRun(t, "one more, never", late, "y", "S", nil, 0)
	takeRun(t, "room for one more, late", countGrammar(altOf(symCall("C", number(0), number(2)), symCall("D"))), "z", "S", nil, 0)
	// The first Alt alone takes more goals than there may be: the last one, which would take the text, does not count.
	crowded := countGrammar(altOf(symCall("C", number(0), number(0))))
	if impl.Accepts(crowded, "y") || len(impl.EndsOf(crowded, "y", "S", nil, 0)) > 0 {
		t.Error("what has too many goals has ends")
	}
	if !impl.Accepts(countGrammar(altOf(symCall("C", number(0), number(1)))), "z") {
		t.Error("300 goals are not accepted")
	}
}

func TestExprsAreOfTheirPlace(t *testing.T) {
	here := exprOf(hereNode())
	for at := range 13 {
		text := strings.Repeat("a", 12)
		as := ruleOf("As", "", altOf(), altOf(symText("a"), symCall("As")))
		is := symIf(same(hereNode(), num(at)))
		g := grammarOf(ruleOf("S", "", altOf(symCall("As"), is)), as)
		checkEnds(t, "an SyIf behind a call", g, text, at)
		g = grammarOf(ruleOf("S", "", altOf(symCall("As"), symCall("Is", here))), as, ruleOf("Is", "n", altOf(symIf(same(named("n"), num(at))))))
		checkEnds(t, "an Arg behind a call", g, text, at)
		if got := impl.EndsOf(grammarOf(ruleOf("S", "", altOf(is, symCall("As"))), as), text, "S", nil, at); len(got) != 13-at {
			t.Errorf("from %d on: %v", at, got)
		}
	}
	// The place is that of the Sym, not that of the goal, nor behind what is called.
	g := grammarOf(ruleOf("S", "", altOf(symText("a"), symIf(same(hereNode(), num(1))), symSet("b"), symIf(same(hereNode(), num(2))), symCall("T", here), symIf(same(hereNode(), num(4))))), ruleOf("T", "n", altOf(symIf(same(named("n"), num(2))), symText("cc"))))
	checkEnds(t, "each at its place", g, "abcc", 4)
	checkChart(t, "Args of one call", grammarOf(ruleOf("S", "", altOf(symText("ab"), symCall("P", here, number(7)), symCall("P", number(7), here))), ruleOf("P", "a b", altOf(symText("c")))), "abcc",
		"S@0 4#2", "P2 7@2 3#0", "P7 3@3 4#1")
}

func TestArgsThatAreNoneDoNotGoOn(t *testing.T) {
	handed := func(arg impl.Expr) impl.Grammar {
		return grammarOf(ruleOf("S", "", altOf(symText("a"), symCall("N", arg), symText("b")), altOf(symText("a"))), ruleOf("N", "n", altOf()))
	}
	below := exprOf(num(0), num(1), pair(impl.ExSub, 0, 1))
	divided := exprOf(num(1), num(0), pair(impl.ExDiv, 0, 1))
	over := exprOf(num(99), num(1), pair(impl.ExAdd, 0, 1))
	nearly := exprOf(num(98), num(1), pair(impl.ExAdd, 0, 1))
	checkChart(t, "0", handed(number(0)), "ab", "S@0 1#0 2#2", "N0@1 1#1")
	checkChart(t, "99", handed(number(99)), "ab", "S@0 1#0 2#2", "N99@1 1#1")
	checkChart(t, "98 and 1", handed(nearly), "ab", "S@0 1#0 2#2", "N99@1 1#1")
	for _, arg := range []impl.Expr{over, below, divided, beyondAbove(), beyondBelow(), greatest(), least()} {
		checkChart(t, "none", handed(arg), "ab", "S@0 1#0")
		// Beside Args that are right, ahead and behind.
		two := func(a, b impl.Expr) impl.Grammar {
			return grammarOf(ruleOf("S", "", altOf(symCall("P", a, b)), altOf(symText("a"))), ruleOf("P", "a b", altOf()))
		}
		checkChart(t, "none, and 1", two(arg, number(1)), "ab", "S@0 1#0")
		checkChart(t, "1, and none", two(number(1), arg), "ab", "S@0 1#0")
		// One way does not go on; the others do.
		g := grammarOf(ruleOf("S", "", altOf(symCall("N", arg)), altOf(symText("a"), symCall("N", arg)), altOf(symText("a"), symText("b"))), ruleOf("N", "n", altOf()))
		checkEnds(t, "another Alt", g, "ab", 2)
	}
	for _, e := range []impl.Expr{divided, beyondAbove(), beyondBelow(), more(divided, num(0), pair(impl.ExMul, 2, 3), not(4))} {
		checkChart(t, "an SyIf that is none", grammarOf(ruleOf("S", "", altOf(symText("a"), symIf(e)), altOf(symText("ab"), symIf(e), symCall("S")), altOf())), "ab", "S@0 0#0")
	}
	// Divided by what was bound: by 0 in one way, and not in the other.
	g := oneRule(altOf(symBound("n", "D"), symIf(exprOf(num(9), named("n"), pair(impl.ExDiv, 0, 1)))), altOf(symText("0")))
	checkEnds(t, "divided by 3", g, "3", 1)
	checkEnds(t, "divided by 0", oneRule(altOf(symBound("n", "D"), symIf(exprOf(num(9), named("n"), pair(impl.ExDiv, 0, 1))))), "0")
	// A row of numbers ends at 99, at one place.
	c, ok := checkRun(t, paramRule("n", altOf(symCall("R", plus("n", 1))), altOf(symText("a"))), "a", "R", []int{0}, 0)
	if !ok || len(c.Goals) != 100 || c.Goals[99].Args[0] != 99 {
		t.Errorf("%d goals, %v", len(c.Goals), ok)
	}
}

func TestTextsAndPlacesAtTheirEdges(t *testing.T) {
	g := grammarOf(ruleOf("S", "", altOf(symSet("a-z"), symCall("S")), altOf()), ruleOf("T", "", altOf(symText("aa"))))
	for length := range 30 {
		text := strings.Repeat("a", length)
		for from := -3; from <= length+3; from++ {
			for _, name := range []string{"S", "T"} {
				if length > 12 || from < 0 || from > length {
					refuseRun(t, "too long, or no place", g, text, name, nil, from)
				} else {
					takeRun(t, "a place", g, text, name, nil, from)
				}
			}
		}
		if got := impl.Accepts(g, text); got != (length <= 12) {
			t.Errorf("Accepts of %d bytes = %v", length, got)
		}
	}
	checkChart(t, "no text", g, "", "S@0 0#0")
	for _, from := range []int{leastInt, -1, 3, 12, 13, greatestInt} {
		refuseRun(t, "no place", g, "aa", "S", nil, from)
	}
	twelve := "abcdefghijkl"
	if got := impl.EndsOf(g, twelve, "S", nil, 12); !slices.Equal(got, []int{12}) {
		t.Errorf("at the end of 12 bytes: %v", got)
	}
	if got := impl.EndsOf(g, twelve, "S", nil, 0); len(got) != 13 || !impl.Accepts(g, twelve) {
		t.Errorf("12 bytes: %v", got)
	}
	refuseRun(t, "13 bytes", g, twelve+"m", "S", nil, 0)
	refuseRun(t, "13 bytes, from the 12th on", g, twelve+"m", "S", nil, 12)
	// What no Sym can take is in the way, whatever byte it is.
	for b := range 256 {
		text := "a" + string([]byte{byte(b)}) + "a"
		want := []int{0, 1}
		if b >= 'a' && b <= 'z' {
			want = []int{0, 1, 2, 3}
		}
		checkEnds(t, "each byte", g, text, want...)
	}
}

func TestArgsAtTheirEdges(t *testing.T) {
	g := paramRule("a b", altOf(symIf(twoNames(impl.ExLess)), symText("a")), altOf(symText("ab")))
	edges := []int{leastInt, -100, -1, 0, 1, 50, 98, 99, 100, 101, 9999, greatestInt}
	for _, a := range edges {
		for _, b := range edges {
			if a < 0 || a > 99 || b < 0 || b > 99 {
				refuseRun(t, "args beyond", g, "ab", "R", []int{a, b}, 0)
			} else {
				takeRun(t, "args", g, "ab", "R", []int{a, b}, 0)
			}
		}
	}
	for count := range 9 {
		for params := range 7 {
			g := grammarOf(ownRule("P", 0), ownRule("Q", params))
			args := slices.Repeat([]int{1}, count)
			if count == params {
				takeRun(t, "as many args", g, "aa", "Q", args, 0)
			} else {
				refuseRun(t, "args too few or too many", g, "aa", "Q", args, 0)
			}
			if count > 0 {
				refuseRun(t, "an arg of no Param", g, "aa", "P", args, 0)
			}
		}
	}
	takeRun(t, "no args", g, "a", "S", []int{}, 0)
	refuseRun(t, "a thousand args", g, "a", "R", make([]int, 1000), 0)
}

func TestNamesThatNoRuleHas(t *testing.T) {
	g := lengthGrammar()
	for _, name := range []string{"", "s", "T", "row", "Ro", "Rows", "D ", "Row ", "\x00", strings.Repeat("S", 500)} {
		refuseRun(t, "no rule", g, "1a", name, nil, 0)
		refuseRun(t, "no rule, with an arg", g, "1a", name, []int{1}, 0)
	}
	takeRun(t, "the last rule", g, "1a", "Row", []int{1}, 1)
	takeRun(t, "a rule that nothing calls", grammarOf(ruleOf("S", "", altOf()), ruleOf("T", "", altOf(symText("a")))), "a", "T", nil, 0)
}

func TestWrongGrammarsDoNotRun(t *testing.T) {
	wrong := map[string]impl.Grammar{
		"no rules":           {},
		"no Alts":            grammarOf(ruleOf("S", "")),
		"no Kind":            grammarOf(ruleOf("S", "", altOf(impl.Sym{}))),
		"a wrong text":       grammarOf(ruleOf("S", "", altOf(), altOf(symText("A")))),
		"a wrong set":        grammarOf(ruleOf("S", "", altOf(), altOf(symSet("z-a")))),
		"a call of none":     grammarOf(ruleOf("S", "", altOf(), altOf(symText("b"), symCall("T")))),
		"an Arg too few":     oneRule(altOf(), altOf(symText("b"), symCall("N"))),
		"an Arg too many":    oneRule(altOf(), altOf(symCall("D", number(1)))),
		"an unknown name":    oneRule(altOf(), altOf(symIf(asked("n")))),
		"no Args":            grammarOf(ruleOf("S", "", altOf(), altOf(impl.Sym{Kind: impl.SyIf}))),
		"a wrong Arg":        oneRule(altOf(), altOf(symCall("N", impl.Expr{}))),
		"a Name twice":       grammarOf(ruleOf("S", "", altOf()), ruleOf("S", "", altOf())),
		"a wrong Name":       grammarOf(ruleOf("S", "", altOf()), ruleOf("0", "", altOf())),
		"a first Param":      grammarOf(ruleOf("S", "n", altOf())),
		"bound twice":        oneRule(altOf(), altOf(symBound("n", "D"), symBound("n", "D"))),
		"too many rules":     manyRules(31),
		"a rule not come to": grammarOf(ruleOf("S", "", altOf()), ruleOf("T", "", altOf(symText("")))),
	}
	for what, g := range wrong {
		for _, text := range []string{"", "a", "ab"} {
			refuseRun(t, what, g, text, "S", nil, 0)
			refuseRun(t, what, g, text, "S", []int{0}, 0)
			refuseRun(t, what, g, text, "R0", nil, 0)
			if impl.Accepts(g, text) {
				t.Errorf("%s: Accepts(%q) = true", what, text)
			}
			if got := impl.EndsOf(g, text, "S", nil, 0); len(got) > 0 {
				t.Errorf("%s: EndsOf(%q) = %v", what, text, got)
			}
		}
	}
	if impl.Accepts(impl.Grammar{}, "") {
		t.Error("a grammar without rules accepts")
	}
}

// Accepts asks of the first rule, of all of the text.
func TestAcceptsAsksTheFirstRule(t *testing.T) {
	s, u := ruleOf("S", "", altOf(symText("a"))), ruleOf("T", "", altOf(symText("b")), altOf(symText("ba")))
	for text, want := range map[string][2]bool{"a": {true, false}, "b": {false, true}, "ba": {false, true}, "ab": {false, false}, "": {false, false}, "aa": {false, false}} {
		if got := impl.Accepts(grammarOf(s, u), text); got != want[0] {
			t.Errorf("S first: %q %v", text, got)
		}
		if got := impl.Accepts(grammarOf(u, s), text); got != want[1] {
			t.Errorf("T first: %q %v", text, got)
		}
	}
	nothing := grammarOf(ruleOf("S", "", altOf()))
	if !impl.Accepts(nothing, "") || impl.Accepts(nothing, "a") {
		t.Error("an Alt without Syms")
	}
}

func TestRightGrammarsRun(t *testing.T) {
	for _, g := range rightGrammars() {
		if len(g.Rules) > 1 && len(g.Rules[1].Alts[0].Syms) == 4 && len(g.Rules[1].Alts[0].Syms[1].Args) > 0 {
			// The slow reading comes to each node of a great expression as often as it is below others.
			continue
		}
		for _, text := range []string{"", "a", "aab", "3abc", "1+2", "aaaa", "12"} {
			for _, rule := range g.Rules {
				for from := range len(text) + 1 {
					checkRun(t, g, text, rule.Name, slices.Repeat([]int{from}, len(rule.Params)), from)
				}
			}
		}
	}
}

// smallArg is mostly small, and now and then no arg, or not to be reckoned.
func smallArg(next func(n int) int, known []string) impl.Expr {
	leaf := func() impl.ExNode {
		if len(known) > 0 && next(3) > 0 {
			return named(known[next(len(known))])
		}
		if next(3) == 0 {
			return hereNode()
		}
		return num([]int{0, 1, 2, 3, 98, 99}[next(6)*next(2)])
	}
	if next(2) == 0 {
		return exprOf(leaf())
	}
	return exprOf(leaf(), leaf(), pair(impl.ExAdd+next(7), 0, 1))
}

func smallSym(next func(n int) int, g impl.Grammar, known []string) impl.Sym {
	switch next(10) {
	case 0:
		return symText([]string{"a", "b", "1", "ab", "a1"}[next(5)])
	case 1, 2:
		return symSet([]string{"ab", "0-9", "a-z0-3"}[next(3)])
	case 3:
		return symIf(smallArg(next, known))
	}
	rule := g.Rules[next(len(g.Rules))]
	args := []impl.Expr{}
	for range rule.Params {
		args = append(args, smallArg(next, known))
	}
	for _, bind := range []string{"k", "a", "z"} {
		if next(3) == 0 && !slices.Contains(known, bind) {
			return symBound(bind, rule.Name, args...)
		}
	}
	return symCall(rule.Name, args...)
}

// smallGrammar is right; its rules call each other with small numbers, and take a, b and 1.
func smallGrammar(next func(n int) int) impl.Grammar {
	g := impl.Grammar{}
	for i := range 2 + next(4) {
		rule := ruleOf(fmt.Sprintf("R%d", i), "")
		for _, param := range []string{"c", "n"} {
			if i > 0 && next(3) == 0 {
				rule.Params = append(rule.Params, param)
			}
		}
		g.Rules = append(g.Rules, rule)
	}
	for i := range g.Rules {
		for range 2 + next(4) {
			alt, known := impl.Alt{}, slices.Clone(g.Rules[i].Params)
			for range next(4) {
				sym := smallSym(next, g, known)
				alt.Syms = append(alt.Syms, sym)
				if sym.Bind != "" {
					known = append(known, sym.Bind)
				}
			}
			g.Rules[i].Alts = append(g.Rules[i].Alts, alt)
		}
	}
	return g
}

func TestRunsOfManySeeds(t *testing.T) {
	t.Parallel()
	const seeds = 4000
	ended, late, lesser, many, refused := 0, 0, 0, 0, 0
	for seed := range seeds {
		next := seeded(seed)
		g := smallGrammar(next)
		checkGrammar(t, "a small one", g)
		text := ""
		for range next(7) {
			text += string("ab1"[next(3)])
		}
		rule := g.Rules[next(len(g.Rules))]
		args := []int{}
		for range rule.Params {
			args = append(args, next(4))
		}
		c, ok := checkRun(t, g, text, rule.Name, args, next(len(text)+1))
		if !ok {
			refused++
			continue
		}
		first := c.Goals[0]
		ended += oneOf(len(first.Ends) > 0)
		late += oneOf(len(first.Ends) > 1 && slices.Max(first.Ranks) > slices.Min(first.Ranks)+len(first.Ends)-1)
		lesser += oneOf(!slices.IsSorted(first.Ranks))
		many += oneOf(len(c.Goals) > 4)
	}
	if ended < seeds/5 || late < seeds/20 || lesser < seeds/100 || many < seeds/5 || refused < 3 {
		t.Errorf("of %d: %d ended, %d with late ends, %d with lesser late ones, %d with many goals, %d refused", seeds, ended, late, lesser, many, refused)
	}
}

// sharesInts tells whether two lists, with the room behind them, have memory in common.
func sharesInts(a, b []int) bool {
	if cap(a) == 0 || cap(b) == 0 {
		return false
	}
	size := unsafe.Sizeof(0)
	x, y := uintptr(unsafe.Pointer(unsafe.SliceData(a))), uintptr(unsafe.Pointer(unsafe.SliceData(b)))
	return x < y+uintptr(cap(b))*size && y < x+uintptr(cap(a))*size
}

func TestRunsShareNoMemory(t *testing.T) {
	t.Parallel()
	grammars := rightGrammars()
	for seed := range 300 {
		grammars[fmt.Sprint("seed ", seed)] = smallGrammar(seeded(seed))
	}
	for what, plain := range grammars {
		for _, rule := range plain.Rules {
			g := roomyGrammar(plain)
			text := strings.Clone("1ab1")
			args := roomyList(slices.Repeat([]int{2}, len(rule.Params)), 77)
			before := grammarPicture(g) + fmt.Sprint(args[:cap(args)]) + text
			c, _ := impl.RunGoal(g, text, rule.Name, args, 0)
			ends := impl.EndsOf(g, text, rule.Name, args, 0)
			impl.Accepts(g, text)
			if after := grammarPicture(g) + fmt.Sprint(args[:cap(args)]) + text; after != before {
				t.Fatalf("%s: an argument is changed:\n%s\nwas\n%s", what, after, before)
			}
			lists := [][]int{args, ends}
			for _, goal := range c.Goals {
				lists = append(lists, goal.Args, goal.Ends, goal.Ranks)
			}
			for _, sym := range allSyms(g) {
				for _, arg := range sym.Args {
					for _, node := range arg.Nodes {
						lists = append(lists, node.Kids)
					}
				}
			}
			answers := 2 + 3*len(c.Goals)
			for i, list := range lists[:answers] {
				for _, other := range lists[i+1:] {
					if sharesInts(list, other) {
						t.Fatalf("%s: %v shares memory with %v", what, list, other)
					}
				}
			}
		}
	}
}

func allSyms(g impl.Grammar) []impl.Sym {
	syms := []impl.Sym{}
	for _, rule := range g.Rules {
		for _, alt := range rule.Alts {
			syms = append(syms, alt.Syms...)
		}
	}
	return syms
}

func TestRunsAnswerTheSameAgain(t *testing.T) {
	g := climbGrammar()
	first, _ := checkRun(t, g, "1+2^3+4", "S", nil, 0)
	for range 200 {
		again, ok := impl.RunGoal(g, "1+2^3+4", "S", nil, 0)
		if !ok || chartPicture(g, again) != chartPicture(g, first) {
			t.Fatalf("RunGoal answers\n%s\nand then\n%s", chartPicture(g, first), chartPicture(g, again))
		}
		// What is refused leaves nothing behind, and what was answered may be written over.
		impl.RunGoal(countGrammar(altOf(symCall("C", number(0), number(0)))), "z", "S", nil, 0)
		for _, goal := range again.Goals {
			for i := range goal.Ends {
				goal.Ends[i], goal.Ranks[i] = -1, -1
			}
		}
	}
}

// A rule with as many calls as there may be, over as long a text: ways that come together are not gone twice.
func TestManyWaysOverALongText(t *testing.T) {
	eight := altOf(slices.Repeat([]impl.Sym{symCall("R", plus("n", 1))}, 8)...)
	g := grammarOf(
		ruleOf("S", "", altOf(symCall("R", number(78)))),
		ruleOf("R", "n", eight, eight, eight, eight, eight, eight, altOf(symText("a")), altOf()))
	text := strings.Repeat("a", 12)
	c, ok := impl.RunGoal(g, text, "S", nil, 0)
	if !ok || len(c.Goals) != 2+21*13 {
		t.Fatalf("%d goals, %v", len(c.Goals), ok)
	}
	for _, goal := range c.Goals {
		// All that is left, but of the last number, which has no calls.
		want := 13 - goal.From
		if goal.Rule == 1 && goal.Args[0] == 99 {
			want = min(2, want)
		} else if goal.Rule == 1 && goal.Args[0] == 98 {
			want = min(9, want)
		}
		if len(goal.Ends) != want {
			t.Fatalf("%v has %d ends, not %d", goal, len(goal.Ends), want)
		}
	}
}
