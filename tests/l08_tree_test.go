package tests

import (
	"fmt"
	"slices"
	"strings"
	"testing"

	"loop.example/g00243/impl"
)

func treeNode(rule, alt int, args []int, from, to int, kids ...int) impl.TreeNode {
	return impl.TreeNode{Rule: rule, Alt: alt, Args: args, From: from, To: to, Kids: kids}
}

func treeOf(nodes ...impl.TreeNode) impl.Tree { return impl.Tree{Nodes: nodes} }

// treePicture is, of each node, the rule's Name, its Args, its Alt, from where to where, and its Kids.
func treePicture(g impl.Grammar, tree impl.Tree) string {
	told := []string{}
	for _, node := range tree.Nodes {
		args := strings.ReplaceAll(strings.Trim(fmt.Sprint(node.Args), "[]"), " ", ",")
		line := fmt.Sprintf("%s%s/%d@%d-%d", g.Rules[node.Rule].Name, args, node.Alt, node.From, node.To)
		for _, kid := range node.Kids {
			line += fmt.Sprint(" ", kid)
		}
		told = append(told, line)
	}
	return strings.Join(told, "; ")
}

func slowKnown(rule impl.Rule, args []int) []impl.Var {
	known := []impl.Var{}
	for i, param := range rule.Params {
		known = append(known, impl.Var{Name: param, Num: args[i]})
	}
	return known
}

// slowNodeOk goes through the Alt of the node at this place; the nodes ahead of it are right.
func slowNodeOk(g impl.Grammar, text string, nodes []impl.TreeNode, place int) bool {
	node := nodes[place]
	if node.Rule < 0 || node.Rule >= len(g.Rules) {
		return false
	}
	rule := g.Rules[node.Rule]
	if node.Alt < 0 || node.Alt >= len(rule.Alts) || !slowStarts(g, text, rule.Name, node.Args, node.From) {
		return false
	}
	rest, kids, known := text[node.From:], node.Kids, slowKnown(rule, node.Args)
	for _, sym := range rule.Alts[node.Alt].Syms {
		at := len(text) - len(rest)
		switch sym.Kind {
		case 1:
			if !strings.HasPrefix(rest, sym.Text) {
				return false
			}
			rest = rest[len(sym.Text):]
		case 2:
			if rest == "" || !strings.Contains(slowSetBytes(sym.Text), rest[:1]) {
				return false
			}
			rest = rest[1:]
		case 3:
			args, ok := slowArgs(sym, known, at)
			if !ok || len(kids) == 0 || kids[0] < 0 || kids[0] >= place {
				return false
			}
			kid := nodes[kids[0]]
			if g.Rules[kid.Rule].Name != sym.Text || fmt.Sprint(kid.Args) != fmt.Sprint(args) || kid.From != at {
				return false
			}
			known = append(known, impl.Var{Name: sym.Bind, Num: slowBindNum(text[at:kid.To])})
			rest, kids = text[kid.To:], kids[1:]
		case 4:
			if num, ok := slowEval(sym.Args[0], known, at); !ok || num == 0 {
				return false
			}
		}
	}
	return len(kids) == 0 && node.To == len(text)-len(rest)
}

func slowTreeOk(g impl.Grammar, text string, tree impl.Tree) bool {
	if !slowGrammarOk(g) || len(text) > 12 || len(tree.Nodes) == 0 || len(tree.Nodes) > 60 {
		return false
	}
	for place := range tree.Nodes {
		if !slowNodeOk(g, text, tree.Nodes, place) {
			return false
		}
	}
	return true
}

// slowKid is an end of a goal of the chart.
type slowKid struct{ goal, to, rank int }

// slowWays has every row of Kids with which the Syms come to this place, by the first one's end, then by the next one's.
func slowWays(g impl.Grammar, text string, c impl.Chart, syms []impl.Sym, known []impl.Var, at, to int) [][]slowKid {
	if len(syms) == 0 {
		return [][]slowKid{{}}[:oneOf(at == to)]
	}
	sym := syms[0]
	if sym.Kind != 3 {
		s := &slowRunner{g: g, text: text}
		for _, next := range s.paths(syms[:1], known, at) {
			return slowWays(g, text, c, syms[1:], known, next, to)
		}
		return nil
	}
	args, ok := slowArgs(sym, known, at)
	ways := [][]slowKid{}
	for i, goal := range c.Goals {
		if !ok || g.Rules[goal.Rule].Name != sym.Text || fmt.Sprint(goal.Args) != fmt.Sprint(args) || goal.From != at {
			continue
		}
		for j, end := range goal.Ends {
			with := append(slices.Clone(known), impl.Var{Name: sym.Bind, Num: slowBindNum(text[at:end])})
			for _, way := range slowWays(g, text, c, syms[1:], with, end, to) {
				ways = append(ways, append([]slowKid{{i, end, goal.Ranks[j]}}, way...))
			}
		}
	}
	return ways
}

// slowGrow adds the nodes of this goal's first tree; it gives up when there are 1000.
func slowGrow(g impl.Grammar, text string, c impl.Chart, whole slowKid, tree *impl.Tree, begun *int) {
	if *begun++; *begun > 1000 {
		return
	}
	goal := c.Goals[whole.goal]
	rule := g.Rules[goal.Rule]
	for i, alt := range rule.Alts {
		for _, way := range slowWays(g, text, c, alt.Syms, slowKnown(rule, goal.Args), goal.From, whole.to) {
			if slices.ContainsFunc(way, func(kid slowKid) bool { return kid.rank >= whole.rank }) {
				continue
			}
			node := treeNode(goal.Rule, i, goal.Args, goal.From, whole.to)
			for _, kid := range way {
				slowGrow(g, text, c, kid, tree, begun)
				node.Kids = append(node.Kids, len(tree.Nodes)-1)
			}
			tree.Nodes = append(tree.Nodes, node)
			return
		}
	}
	panic("an end without a way")
}

func slowFirstTree(g impl.Grammar, text, name string, args []int, from, to int) (impl.Tree, bool) {
	c, ok := slowRun(g, text, name, args, from)
	if !ok || !slices.Contains(c.Goals[0].Ends, to) {
		return impl.Tree{}, false
	}
	tree, begun := impl.Tree{}, 0
	slowGrow(g, text, c, slowKid{0, to, c.Goals[0].Ranks[slices.Index(c.Goals[0].Ends, to)]}, &tree, &begun)
	if len(tree.Nodes) > 60 || begun > 60 {
		return impl.Tree{}, false
	}
	return tree, true
}

// slowTreeText tells each node by what was told of those ahead of it.
func slowTreeText(g impl.Grammar, tree impl.Tree) string {
	told := []string{""}
	for place, node := range tree.Nodes {
		kids := []string{}
		for _, kid := range node.Kids {
			if kid < 0 || kid >= place {
				return ""
			}
			kids = append(kids, told[1+kid])
		}
		if node.Rule < 0 || node.Rule >= len(g.Rules) {
			return ""
		}
		text := g.Rules[node.Rule].Name + "(" + strings.Join(kids, " ") + ")"
		if len(text) > 2000 {
			return ""
		}
		told = append(told, text)
	}
	return told[len(told)-1]
}

// slowHeight goes from the whole down, a floor at a time, until there is no Kid.
func slowHeight(tree impl.Tree) int {
	for place, node := range tree.Nodes {
		if slices.ContainsFunc(node.Kids, func(kid int) bool { return kid < 0 || kid >= place }) {
			return 0
		}
	}
	height, floor := 0, map[int]bool{len(tree.Nodes) - 1: len(tree.Nodes) > 0}
	delete(floor, -1)
	for ; len(floor) > 0; height++ {
		below := map[int]bool{}
		for place := range floor {
			for _, kid := range tree.Nodes[place].Kids {
				below[kid] = true
			}
		}
		floor = below
	}
	return height
}

// checkTree holds FirstTree against the slow one, and what it answers by the other functions, and answers its picture.
func checkTree(t *testing.T, g impl.Grammar, text, name string, args []int, from, to int) (string, bool) {
	t.Helper()
	got, ok := impl.FirstTree(g, text, name, args, from, to)
	want, wantOk := slowFirstTree(g, text, name, args, from, to)
	if ok != wantOk || !ok && len(got.Nodes) > 0 {
		t.Fatalf("FirstTree(%v, %q, %q, %v, %d, %d) = %v, %v, not %v", g, text, name, args, from, to, got, ok, wantOk)
	}
	if !ok {
		return "", false
	}
	picture := treePicture(g, got)
	if want := treePicture(g, want); picture != want {
		t.Fatalf("FirstTree(%v, %q, %q, %v, %d, %d):\n%s\nnot\n%s", g, text, name, args, from, to, picture, want)
	}
	if !impl.TreeOk(g, text, got) || !slowTreeOk(g, text, got) {
		t.Fatalf("TreeOk(%v, %q, %s) = false", g, text, picture)
	}
	if told, want := impl.TreeText(g, got), slowTreeText(g, got); told != want {
		t.Fatalf("TreeText(%v, %s) = %q, not %q", g, picture, told, want)
	}
	if height, want := impl.HeightOf(got), slowHeight(got); height != want {
		t.Fatalf("HeightOf(%s) = %d, not %d", picture, height, want)
	}
	return picture, true
}

// checkTrees wants just the ends of the goal to have a tree, unless that is too great, and answers how many have one.
func checkTrees(t *testing.T, g impl.Grammar, text, name string, args []int, from int) int {
	t.Helper()
	trees := 0
	ends := impl.EndsOf(g, text, name, args, from)
	for to := -2; to <= len(text)+2; to++ {
		if slices.Contains(ends, to) {
			_, ok := checkTree(t, g, text, name, args, from, to)
			trees += oneOf(ok)
		} else if tree, ok := impl.FirstTree(g, text, name, args, from, to); ok || len(tree.Nodes) > 0 {
			t.Fatalf("%v, %q: %s%v has a tree from %d to %d, which is no end", g, text, name, args, from, to)
		}
	}
	return trees
}

// firstIs wants the first tree of the first rule, over all of the text, to be just this one, and to be told so, and so high.
func firstIs(t *testing.T, what string, g impl.Grammar, text, want, told string, height int) {
	t.Helper()
	checkTrees(t, g, text, g.Rules[0].Name, nil, 0)
	got, ok := checkTree(t, g, text, g.Rules[0].Name, nil, 0, len(text))
	if !ok || got != want {
		t.Fatalf("%s, %q: %v\n%s\nnot\n%s", what, text, ok, got, want)
	}
	tree, _ := impl.FirstTree(g, text, g.Rules[0].Name, nil, 0, len(text))
	if got := impl.TreeText(g, tree); got != told {
		t.Errorf("%s, %q: TreeText is %q, not %q", what, text, got, told)
	}
	if got := impl.HeightOf(tree); got != height {
		t.Errorf("%s, %q: HeightOf is %d, not %d", what, text, got, height)
	}
}

// firstFrom wants the picture of a first tree of this rule, without Params, from 0 on.
func firstFrom(t *testing.T, g impl.Grammar, text, name string, to int, want string) {
	t.Helper()
	if got, ok := checkTree(t, g, text, name, nil, 0, to); !ok || got != want {
		t.Errorf("%s to %d of %q: %v\n%s\nnot\n%s", name, to, text, ok, got, want)
	}
}

func noFirst(t *testing.T, what string, g impl.Grammar, text, name string, args []int, from, to int) {
	t.Helper()
	if _, ok := checkTree(t, g, text, name, args, from, to); ok {
		t.Errorf("%s: FirstTree(%v, %q, %q, %v, %d, %d) = true", what, g, text, name, args, from, to)
	}
}

func takeTree(t *testing.T, what string, g impl.Grammar, text string, tree impl.Tree) {
	t.Helper()
	if got, slow := impl.TreeOk(g, text, tree), slowTreeOk(g, text, tree); !got || !slow {
		t.Errorf("%s: TreeOk(%v, %q, %v) = %v (slowly %v)", what, g, text, tree, got, slow)
	}
}

func refuseTree(t *testing.T, what string, g impl.Grammar, text string, tree impl.Tree) {
	t.Helper()
	if got, slow := impl.TreeOk(g, text, tree), slowTreeOk(g, text, tree); got || slow {
		t.Errorf("%s: TreeOk(%v, %q, %v) = %v (slowly %v)", what, g, text, tree, got, slow)
	}
}

func TestTreesThatAreKnown(t *testing.T) {
	s, a, b := symCall("S"), symText("a"), symText("b")
	within := grammarOf(ruleOf("S", "", altOf(a, s, b), altOf()))
	firstIs(t, "nothing", within, "", "S/1@0-0", "S()", 1)
	firstIs(t, "within", within, "ab", "S/1@1-1; S/0@0-2 0", "S(S())", 2)
	firstIs(t, "within, deeper", within, "aabb", "S/1@2-2; S/0@1-3 0; S/0@0-4 1", "S(S(S()))", 3)
	right := grammarOf(ruleOf("S", "", altOf(a, s), altOf(a)))
	firstIs(t, "at the right", right, "aaa", "S/1@2-3; S/0@1-3 0; S/0@0-3 1", "S(S(S()))", 3)
	firstIs(t, "a length", lengthGrammar(), "2ab", "D/0@0-1; Row0/0@3-3; Row1/1@2-3 1; Row2/1@1-3 2; S/0@0-3 0 3", "S(D() Row(Row(Row())))", 4)
	firstIs(t, "no length", lengthGrammar(), "0", "D/0@0-1; Row0/0@1-1; S/0@0-1 0 1", "S(D() Row())", 2)
	firstIs(t, "an operator", climbGrammar(), "1+2",
		"A/0@0-1; E1/2@0-1 0; A/0@2-3; E2/2@2-3 2; E0/0@0-3 1 3; S/0@0-3 4", "S(E(E(A()) E(A())))", 4)
	for text, told := range map[string]string{
		"1":       "S(E(A()))",
		"1+2+3":   "S(E(E(E(A()) E(A())) E(A())))",
		"1^2^3":   "S(E(E(A()) E(E(A()) E(A()))))",
		"1+2^3":   "S(E(E(A()) E(E(A()) E(A()))))",
		"1^2+3":   "S(E(E(E(A()) E(A())) E(A())))",
		"(1+2)^3": "S(E(E(A(E(E(A()) E(A())))) E(A())))",
	} {
		tree, ok := impl.FirstTree(climbGrammar(), text, "S", nil, 0, len(text))
		if got := impl.TreeText(climbGrammar(), tree); !ok || got != told {
			t.Errorf("%q: %v, %q, not %q", text, ok, got, told)
		}
		checkTrees(t, climbGrammar(), text, "S", nil, 0)
	}
}

func TestNodesOfEachKindOfSym(t *testing.T) {
	firstIs(t, "a text", grammarOf(ruleOf("S", "", altOf(symText("ab")))), "ab", "S/0@0-2", "S()", 1)
	firstIs(t, "a set", grammarOf(ruleOf("S", "", altOf(symSet("a-c")))), "b", "S/0@0-1", "S()", 1)
	firstIs(t, "what is not 0", grammarOf(ruleOf("S", "", altOf(symIf(number(0))), altOf(symIf(number(3))))), "", "S/1@0-0", "S()", 1)
	firstIs(t, "a call", oneRule(altOf(symCall("D"))), "5", "D/0@0-1; S/0@0-1 0", "S(D())", 2)
	each := oneRule(altOf(symText("ab"), symSet("0-9"), symCall("D"), symIf(number(1)), symCall("N", number(7)), symText("+")))
	firstIs(t, "each Kind", each, "ab12+", "D/0@3-4; N7/0@4-4; S/0@0-5 0 1", "S(D() N())", 2)
	// A Sym that does not go on behind Kids that do.
	for _, text := range []string{"ab12", "ab12-", "ab1a+", "aba1+", "bb12+", "ab12++"} {
		noFirst(t, "each Kind", each, text, "S", nil, 0, len(text))
	}
	firstFrom(t, each, "ab12++", "S", 5, "D/0@3-4; N7/0@4-4; S/0@0-5 0 1")
}

func TestKidsAreAsManyAsCalls(t *testing.T) {
	for count := range 9 {
		g := oneRule(altOf(slices.Repeat([]impl.Sym{symCall("D")}, count)...))
		tree, ok := impl.FirstTree(g, "12345678"[:count], "S", nil, 0, count)
		if !ok || len(tree.Nodes) != 1+count {
			t.Fatalf("%d calls: %v, %v", count, tree, ok)
		}
		for i, kid := range tree.Nodes[count].Kids {
			if kid != i || tree.Nodes[i].From != i || tree.Nodes[i].To != i+1 {
				t.Errorf("%d calls: %s", count, treePicture(g, tree))
			}
		}
		checkTrees(t, g, "12345678"[:count], "S", nil, 0)
	}
}

func TestArgsAndBindsInTrees(t *testing.T) {
	sum := exprOf(named("a"), named("b"), pair(impl.ExAdd, 0, 1))
	handed := withHelpers(
		ruleOf("S", "", altOf(symBound("a", "D"), symBound("b", "D"), symCall("P", sum, asked("a"), exprOf(hereNode())))),
		ruleOf("P", "k l m", altOf(symText("+"), symCall("N", asked("k")), symCall("N", asked("l")), symCall("N", asked("m")))))
	firstIs(t, "handed on", handed, "34+", "D/0@0-1; D/0@1-2; N7/0@3-3; N3/0@3-3; N2/0@3-3; P7,3,2/0@2-3 2 3 4; S/0@0-3 0 1 5", "S(D() D() P(N() N() N()))", 3)
	// N takes nothing when its Param is not 0, which l then is.
	noFirst(t, "an Arg of 0", handed, "04+", "S", nil, 0, 3)
	any := ruleOf("Any", "", altOf(), altOf(symSet("a-z0-9"), symCall("Any")))
	asks := func(n int) impl.Grammar {
		return grammarOf(ruleOf("S", "", altOf(symBound("n", "Any"), symCall("Any"), symIf(same(named("n"), num(n))), symText("+"))), any)
	}
	// Of the first call just the end whose number is asked for, which is not the least.
	firstIs(t, "asked for behind another", asks(2), "abc+",
		"Any/0@2-2; Any/1@1-2 0; Any/1@0-2 1; Any/0@3-3; Any/1@2-3 3; S/0@0-4 2 4", "S(Any(Any(Any())) Any(Any()))", 4)
	firstIs(t, "none", asks(0), "a+", "Any/0@0-0; Any/0@1-1; Any/1@0-1 1; S/0@0-2 0 2", "S(Any() Any(Any()))", 3)
	firstIs(t, "two figures", asks(31), "31a+",
		"Any/0@2-2; Any/1@1-2 0; Any/1@0-2 1; Any/0@3-3; Any/1@2-3 3; S/0@0-4 2 4", "S(Any(Any(Any())) Any(Any()))", 4)
	noFirst(t, "a number that is not there", asks(4), "abc+", "S", nil, 0, 4)
	// From a rule with Params, with args of each edge, from each place.
	for _, n := range []int{0, 1, 50, 98, 99} {
		g := paramRule("n", altOf(symIf(same(named("n"), num(n))), symText("a"), symCall("R", asked("n"))), altOf(symIf(same(named("n"), num(n)))))
		for from := range 3 {
			got, ok := checkTree(t, g, "aa", "R", []int{n}, from, 2)
			if want := fmt.Sprintf("R%d/1@2-2", n); !ok || !strings.HasPrefix(got, want) || strings.Count(got, "R") != 3-from {
				t.Errorf("R of %d from %d on: %v, %s", n, from, ok, got)
			}
			noFirst(t, "another number", g, "aa", "R", []int{99 - n/2*3}, from, 2)
		}
	}
}

// The first Alt is taken, where others would do as well, and likewise of each Kid.
func TestTheFirstAltIsTaken(t *testing.T) {
	a := symText("a")
	firstIs(t, "alike", grammarOf(ruleOf("S", "", altOf(symText("b")), altOf(a), altOf(a), altOf(symSet("a")))), "a", "S/1@0-1", "S()", 1)
	u := []impl.Rule{ruleOf("T", "", altOf(a)), ruleOf("U", "", altOf(a))}
	firstIs(t, "T first", grammarOf(ruleOf("S", "", altOf(symCall("T")), altOf(symCall("U"))), u[0], u[1]), "a", "T/0@0-1; S/0@0-1 0", "S(T())", 2)
	firstIs(t, "U first", grammarOf(ruleOf("S", "", altOf(symCall("U")), altOf(symCall("T"))), u[0], u[1]), "a", "U/0@0-1; S/0@0-1 0", "S(U())", 2)
	firstIs(t, "a Kid's", grammarOf(ruleOf("S", "", altOf(symCall("T"))), ruleOf("T", "", altOf(symText("b")), altOf(symSet("a-z")), altOf(a))), "a", "T/1@0-1; S/0@0-1 0", "S(T())", 2)
	// The first Alt would do, but for what its Kid takes coming later than the whole.
	firstIs(t, "the last one first", grammarOf(ruleOf("S", "", altOf(symCall("T")), altOf(symCall("U")), altOf(a)), u[0], u[1]), "a", "S/2@0-1", "S()", 1)
	// The first Alt has a lesser end, and the second one just this end.
	g := grammarOf(ruleOf("S", "", altOf(a), altOf(a, a), altOf(symSet("a"), symSet("a"))))
	firstFrom(t, g, "aa", "S", 1, "S/0@0-1")
	firstFrom(t, g, "aa", "S", 2, "S/1@0-2")
}

// Of the first call the least end, then of the next one, where other ends would do as well.
func TestTheLeastEndsAreTaken(t *testing.T) {
	call := symCall("T")
	any := ruleOf("T", "", altOf(symText("aa")), altOf(symText("a")), altOf())
	firstIs(t, "two", grammarOf(ruleOf("S", "", altOf(call, call)), any), "aa", "T/2@0-0; T/0@0-2; S/0@0-2 0 1", "S(T() T())", 2)
	firstIs(t, "three", grammarOf(ruleOf("S", "", altOf(call, call, call)), any), "aaa", "T/2@0-0; T/1@0-1; T/0@1-3; S/0@0-3 0 1 2", "S(T() T() T())", 2)
	firstIs(t, "four", grammarOf(ruleOf("S", "", altOf(call, call, call, call)), any), "aaa", "T/2@0-0; T/2@0-0; T/1@0-1; T/0@1-3; S/0@0-3 0 1 2 3", "S(T() T() T() T())", 2)
	firstIs(t, "a text between", grammarOf(ruleOf("S", "", altOf(call, symText("a"), call)), any), "aaa", "T/2@0-0; T/0@1-3; S/0@0-3 0 1", "S(T() T())", 2)
	firstIs(t, "not the least, for the rest", grammarOf(ruleOf("S", "", altOf(call, symText("b"))), any), "aab", "T/0@0-2; S/0@0-3 0", "S(T())", 2)
	// The first call's end decides, not the second one's: that comes back as far as it must.
	g := grammarOf(ruleOf("S", "", altOf(call, symCall("U"), symText("b"))), any, ruleOf("U", "", altOf(symText("a"))))
	firstIs(t, "one more", g, "aab", "T/1@0-1; U/0@1-2; S/0@0-3 0 1", "S(T() U())", 2)
}

// A Kid must have come ahead of the whole, though another choice stands ahead of it.
func TestKidsOfAGreaterRankAreNotTaken(t *testing.T) {
	s, a := symCall("S"), symText("a")
	both := grammarOf(ruleOf("S", "", altOf(s, s), altOf(a)))
	// S from 1 to 3 came (5) behind S from 0 to 3 (4).
	firstIs(t, "both sides", both, "aaa", "S/1@0-1; S/1@1-2; S/0@0-2 0 1; S/1@2-3; S/0@0-3 2 3", "S(S(S() S()) S())", 3)
	left := grammarOf(ruleOf("S", "", altOf(s, a), altOf(a)))
	firstIs(t, "at the left", left, "aaa", "S/1@0-1; S/0@0-2 0; S/0@0-3 1", "S(S(S()))", 3)
	nothing := grammarOf(ruleOf("S", "", altOf(s, s), altOf(), altOf(a)))
	firstIs(t, "with nothing", nothing, "", "S/1@0-0", "S()", 1)
	firstIs(t, "with nothing, and one", nothing, "a", "S/2@0-1", "S()", 1)
	two := grammarOf(ruleOf("S", "", altOf(symCall("T")), altOf(a)), ruleOf("T", "", altOf(s), altOf()))
	firstFrom(t, two, "a", "S", 1, "S/1@0-1")
	firstFrom(t, two, "a", "S", 0, "T/1@0-0; S/0@0-0 0")
	firstFrom(t, two, "a", "T", 0, "T/1@0-0")
	firstFrom(t, two, "a", "T", 1, "S/1@0-1; T/0@0-1 0")
	itself := grammarOf(ruleOf("S", "", altOf(s), altOf(a)))
	firstIs(t, "itself", itself, "a", "S/1@0-1", "S()", 1)
	hidden := grammarOf(ruleOf("S", "", altOf(symCall("E"), s, symCall("E")), altOf(a)), ruleOf("E", "", altOf()))
	firstIs(t, "itself, behind nothing", hidden, "a", "S/1@0-1", "S()", 1)
	// E has come when S comes to 2, and not yet when it comes to 1.
	later := grammarOf(ruleOf("S", "", altOf(symCall("E"), a), altOf(a), altOf(symCall("E"), a, a)), ruleOf("E", "", altOf()))
	firstFrom(t, later, "aa", "S", 1, "S/1@0-1")
	firstFrom(t, later, "aa", "S", 2, "E/0@0-0; S/2@0-2 0")
	// Circles of three, begun at each: those that are not ahead of the whole are not come to again.
	three := grammarOf(
		ruleOf("S", "", altOf(symCall("T")), altOf(a, a)),
		ruleOf("T", "", altOf(symCall("U")), altOf(a)),
		ruleOf("U", "", altOf(s), altOf()))
	for _, name := range []string{"S", "T", "U"} {
		for _, text := range []string{"", "a", "aa", "b"} {
			if got, want := checkTrees(t, three, text, name, nil, 0), len(impl.EndsOf(three, text, name, nil, 0)); got != want {
				t.Errorf("%s over %q: %d trees of %d ends", name, text, got, want)
			}
		}
	}
	// The circle goes on forever; nothing of it has a tree.
	noFirst(t, "a circle alone", grammarOf(ruleOf("S", "", altOf(s))), "", "S", nil, 0, 0)
}

// The same goal and end twice is two nodes, each with all that is below it.
func TestKidsThatAreTheSameAreEachAnew(t *testing.T) {
	g := grammarOf(ruleOf("S", "", altOf(symCall("T"), symCall("T"))), ruleOf("T", "", altOf(symCall("E"))), ruleOf("E", "", altOf()))
	firstIs(t, "twice", g, "", "E/0@0-0; T/0@0-0 0; E/0@0-0; T/0@0-0 2; S/0@0-0 1 3", "S(T(E()) T(E()))", 3)
	g = grammarOf(ruleOf("S", "", altOf(symCall("N", number(3)), symCall("N", number(3)))), ruleOf("N", "n", altOf()))
	firstIs(t, "with Args", g, "", "N3/0@0-0; N3/0@0-0; S/0@0-0 0 1", "S(N() N())", 2)
}

// deepGrammar has R, whose tree of n has n + 1 nodes, and S, whose tree has one more than that of R of n.
func deepGrammar(n int) impl.Grammar {
	down := exprOf(named("n"), num(1), pair(impl.ExSub, 0, 1))
	return grammarOf(
		ruleOf("S", "", altOf(symCall("R", number(n)))),
		ruleOf("R", "n", altOf(symIf(asked("n")), symCall("R", down)), altOf(symIf(exprOf(named("n"), not(0))))))
}

// wideGrammar has S, whose tree has 57 nodes and those of so many more.
func wideGrammar(more int) impl.Grammar {
	seven := slices.Repeat([]impl.Sym{symCall("T")}, 7)
	return grammarOf(
		ruleOf("S", "", altOf(append(seven, symCall("W"))...)),
		ruleOf("T", "", altOf(slices.Repeat([]impl.Sym{symCall("U")}, 7)...)),
		ruleOf("W", "", altOf(slices.Repeat([]impl.Sym{symCall("U")}, more-1)...)),
		ruleOf("U", "", altOf()))
}

func TestFirstTreesOfAsManyNodesAsThereMayBe(t *testing.T) {
	for n := 55; n < 65; n++ {
		tree, ok := impl.FirstTree(deepGrammar(0), "", "R", []int{n}, 0, 0)
		if ok != (n+1 <= 60) || ok && (len(tree.Nodes) != n+1 || impl.HeightOf(tree) != n+1) || !ok && len(tree.Nodes) > 0 {
			t.Errorf("R of %d: %d nodes, %v", n, len(tree.Nodes), ok)
		}
		checkTree(t, deepGrammar(0), "", "R", []int{n}, 0, 0)
		checkTree(t, deepGrammar(n), "", "S", nil, 0, 0)
	}
	for more := 1; more < 8; more++ {
		tree, ok := impl.FirstTree(wideGrammar(more), "", "S", nil, 0, 0)
		if ok != (more <= 3) || ok && (len(tree.Nodes) != 57+more || impl.HeightOf(tree) != 3) || !ok && len(tree.Nodes) > 0 {
			t.Errorf("wide, and %d more: %d nodes, %v", more, len(tree.Nodes), ok)
		}
		checkTree(t, wideGrammar(more), "", "S", nil, 0, 0)
	}
	if got, _ := impl.FirstTree(wideGrammar(3), "", "S", nil, 0, 0); !impl.TreeOk(wideGrammar(3), "", got) {
		t.Error("60 nodes are not taken")
	}
	// More than could ever be told, but not a wait: two of each below each.
	twice := paramRule("n", altOf(symIf(less("n", 99)), symCall("R", plus("n", 1)), symCall("R", plus("n", 1))), altOf(symIf(same(named("n"), num(99)))))
	for n, want := range map[int]bool{99: true, 98: true, 96: true, 95: true, 94: false, 90: false, 50: false, 0: false} {
		if _, ok := impl.FirstTree(twice, "", "R", []int{n}, 0, 0); ok != want {
			t.Errorf("twice from %d on: %v", n, ok)
		}
	}
	// The first tree is too great, though that of another Alt, whose Kid is deeper and comes later, is not.
	g := wideGrammar(4)
	wide, deep := g.Rules[0].Alts[0], altOf(symCall("R", number(20)))
	g.Rules = append(g.Rules, deepGrammar(0).Rules[1])
	g.Rules[0].Alts = []impl.Alt{wide, deep}
	noFirst(t, "the first one is too great", g, "", "S", nil, 0, 0)
	// R of 3 comes ahead of R of 70, and with it the whole.
	g = deepGrammar(0)
	for _, alts := range [][]impl.Alt{{altOf(symCall("R", number(70))), altOf(symCall("R", number(3)))}, {altOf(symCall("R", number(3))), altOf(symCall("R", number(70)))}} {
		g.Rules[0].Alts = alts
		if got, ok := checkTree(t, g, "", "S", nil, 0, 0); !ok || strings.Count(got, "R") != 4 {
			t.Errorf("a greater one comes later: %v, %s", ok, got)
		}
	}
}

// 12 bytes may be gone through in many ways; the first one is found without all of them.
func TestFirstTreesOfManyWays(t *testing.T) {
	eight := altOf(slices.Repeat([]impl.Sym{symCall("T")}, 8)...)
	g := grammarOf(
		ruleOf("S", "", append(slices.Repeat([]impl.Alt{altOf(append(slices.Clone(eight.Syms[:7]), symText("b"))...)}, 7), eight)...),
		ruleOf("T", "", altOf(), altOf(symText("a"), symCall("T"))))
	text := strings.Repeat("a", 12)
	tree, ok := impl.FirstTree(g, text, "S", nil, 0, 12)
	if !ok || !impl.TreeOk(g, text, tree) || len(tree.Nodes) != 1+2+6*3 {
		t.Fatalf("%v, %s", ok, treePicture(g, tree))
	}
	// When S came to 12, no T was known to take more than two.
	for i, kid := range tree.Nodes[20].Kids {
		if node := tree.Nodes[kid]; node.To-node.From != 2*oneOf(i > 1) {
			t.Errorf("Kid %d: %s", i, treePicture(g, tree))
		}
	}
}

func TestTreesOfTextsAtTheirEdges(t *testing.T) {
	g := grammarOf(ruleOf("S", "", altOf(symSet("a-z"), symCall("S")), altOf()), ruleOf("E", "", altOf()))
	for length := range 16 {
		text := strings.Repeat("x", length)
		for from := -2; from <= length+2; from++ {
			for to := -2; to <= length+2; to++ {
				_, ok := checkTree(t, g, text, "S", nil, from, to)
				if want := length <= 12 && from >= 0 && from <= to && to <= length; ok != want {
					t.Fatalf("%d bytes, from %d to %d: %v", length, from, to, ok)
				}
				// E takes nothing wherever there is a place.
				tree := treeOf(treeNode(1, 0, nil, from, to))
				if got, want := impl.TreeOk(g, text, tree), length <= 12 && from >= 0 && from == to && to <= length; got != want || slowTreeOk(g, text, tree) != want {
					t.Fatalf("TreeOk over %d bytes, from %d to %d: %v", length, from, to, got)
				}
			}
		}
	}
	for _, place := range []int{leastInt, -1, 3, 12, 13, greatestInt} {
		noFirst(t, "no From", g, "xx", "S", nil, place, 2)
		noFirst(t, "no To", g, "xx", "S", nil, 0, place)
		noFirst(t, "neither", g, "xx", "E", nil, place, place)
		refuseTree(t, "neither", g, "xx", treeOf(treeNode(1, 0, nil, place, place)))
		refuseTree(t, "no From", g, "xx", treeOf(treeNode(1, 0, nil, place, 2)))
		refuseTree(t, "no To", g, "xx", treeOf(treeNode(1, 0, nil, 2, place)))
	}
}

func TestNodesAtTheirEdges(t *testing.T) {
	g := paramRule("a b", altOf(symText("a")), altOf())
	for _, num := range []int{leastInt, -100, -1, 0, 1, 98, 99, 100, 101, greatestInt} {
		for _, args := range [][]int{{num, 5}, {5, num}, {num, num}} {
			tree := treeOf(treeNode(1, 0, args, 0, 1))
			if num < 0 || num > 99 {
				refuseTree(t, "an Arg beyond", g, "a", tree)
				noFirst(t, "an Arg beyond", g, "a", "R", args, 0, 1)
			} else {
				takeTree(t, "an Arg", g, "a", tree)
				checkTrees(t, g, "a", "R", args, 0)
			}
		}
	}
	for count := range 9 {
		args := slices.Repeat([]int{1}, count)
		for _, rule := range []int{0, 1, 2, 3} {
			tree := treeOf(treeNode(rule, 0, args, 0, 0), treeNode(0, 0, nil, 0, 0))
			if want := impl.TreeOk(g, "a", tree); want != slowTreeOk(g, "a", tree) || want && count != len(g.Rules[rule].Params) {
				t.Errorf("rule %d with %d Args: %v", rule, count, want)
			}
		}
		if count != 2 {
			refuseTree(t, "Args too few or too many", g, "a", treeOf(treeNode(1, 0, args, 0, 1)))
			noFirst(t, "Args too few or too many", g, "a", "R", args, 0, 1)
		}
	}
	for _, rule := range []int{leastInt, -1, 4, 5, greatestInt} {
		refuseTree(t, "no Rule", g, "", treeOf(treeNode(rule, 0, nil, 0, 0)))
	}
	for _, alt := range []int{leastInt, -1, 1, 2, greatestInt} {
		refuseTree(t, "no Alt", g, "", treeOf(treeNode(0, alt, nil, 0, 0)))
	}
	takeTree(t, "the last Alt", g, "a", treeOf(treeNode(1, 1, []int{0, 99}, 1, 1)))
	refuseTree(t, "no Alt behind the last", g, "a", treeOf(treeNode(1, 2, []int{0, 99}, 1, 1)))
}

func TestTreesOfAsManyNodesAsThereMayBe(t *testing.T) {
	g := grammarOf(ruleOf("S", "", altOf(symCall("S")), altOf(symText("a"))))
	// A circle gone round again and again is a tree: TreeOk asks for no rank.
	tree := treeOf(treeNode(0, 1, nil, 0, 1))
	for len(tree.Nodes) < 70 {
		if count := len(tree.Nodes); count <= 60 {
			takeTree(t, "so many nodes", g, "a", tree)
		} else {
			refuseTree(t, "too many nodes", g, "a", tree)
		}
		if got := impl.HeightOf(tree); got != len(tree.Nodes) {
			t.Errorf("HeightOf %d nodes = %d", len(tree.Nodes), got)
		}
		tree.Nodes = append(tree.Nodes, treeNode(0, 0, nil, 0, 1, len(tree.Nodes)-1))
	}
	refuseTree(t, "no nodes", g, "a", impl.Tree{})
	refuseTree(t, "no nodes, no text", g, "", impl.Tree{})
	// Nodes that the whole does not come to count, too, and must be right.
	alone := slices.Repeat([]impl.TreeNode{treeNode(0, 1, nil, 0, 1)}, 61)
	takeTree(t, "60 side by side", g, "a", treeOf(alone[:60]...))
	refuseTree(t, "61 side by side", g, "a", treeOf(alone...))
	for place := range 5 {
		spoiled := slices.Clone(alone[:5])
		spoiled[place].To = 0
		refuseTree(t, "one that is not right", g, "a", treeOf(spoiled...))
	}
}

func TestKidsAtTheirPlaces(t *testing.T) {
	g := grammarOf(ruleOf("S", "", altOf(symCall("S"), symCall("S")), altOf()))
	leaf := treeNode(0, 1, nil, 0, 0)
	takeTree(t, "one Kid twice", g, "", treeOf(leaf, treeNode(0, 0, nil, 0, 0, 0, 0)))
	for first := -2; first < 6; first++ {
		for second := -2; second < 6; second++ {
			tree := treeOf(leaf, leaf, leaf, treeNode(0, 0, nil, 0, 0, first, second), leaf)
			if right := first >= 0 && first < 3 && second >= 0 && second < 3; right {
				takeTree(t, "ahead", g, "", tree)
			} else {
				refuseTree(t, "not ahead", g, "", tree)
				if got := impl.HeightOf(tree); got != 0 {
					t.Errorf("HeightOf(%v) = %d", tree, got)
				}
				if got := impl.TreeText(g, tree); got != "" {
					t.Errorf("TreeText(%v) = %q", tree, got)
				}
			}
		}
	}
	for _, kids := range [][]int{{}, {0}, {0, 1, 2}, {0, 0, 0, 0}} {
		refuseTree(t, "Kids too few or too many", g, "", treeOf(leaf, leaf, leaf, treeNode(0, 0, nil, 0, 0, kids...)))
	}
	refuseTree(t, "a Kid of no call", g, "", treeOf(leaf, treeNode(0, 1, nil, 0, 0, 0)))
	for _, far := range []int{leastInt, greatestInt} {
		tree := treeOf(leaf, treeNode(0, 0, nil, 0, 0, 0, far))
		refuseTree(t, "far off", g, "", tree)
		if impl.HeightOf(tree) != 0 || impl.TreeText(g, tree) != "" {
			t.Errorf("%d: %d, %q", far, impl.HeightOf(tree), impl.TreeText(g, tree))
		}
	}
}

// Each field of each node of a right tree, turned by one and far off.
func TestNodesThatAreSpoiled(t *testing.T) {
	g := lengthGrammar()
	whole, ok := impl.FirstTree(g, "2ab", "S", nil, 0, 3)
	if !ok {
		t.Fatal("no tree")
	}
	copied := func() impl.Tree {
		tree := impl.Tree{}
		for _, node := range whole.Nodes {
			node.Args, node.Kids = slices.Clone(node.Args), slices.Clone(node.Kids)
			tree.Nodes = append(tree.Nodes, node)
		}
		return tree
	}
	for place := range whole.Nodes {
		for _, by := range []int{-100, -3, -2, -1, 1, 2, 3, 100, leastInt, greatestInt} {
			fields := func(node *impl.TreeNode) []*int {
				list := []*int{&node.Rule, &node.Alt, &node.From, &node.To}
				for i := range node.Args {
					list = append(list, &node.Args[i])
				}
				for i := range node.Kids {
					list = append(list, &node.Kids[i])
				}
				return list
			}
			for field := range fields(&whole.Nodes[place]) {
				tree := copied()
				*fields(&tree.Nodes[place])[field] += by
				refuseTree(t, fmt.Sprintf("field %d of node %d and %d", field, place, by), g, "2ab", tree)
			}
		}
		tree := copied()
		tree.Nodes[place].Args = append(tree.Nodes[place].Args, 0)
		refuseTree(t, "an Arg too many", g, "2ab", tree)
		tree = copied()
		tree.Nodes[place].Kids = append(tree.Nodes[place].Kids, 0)
		refuseTree(t, "a Kid too many", g, "2ab", tree)
		tree = copied()
		tree.Nodes[place].Args = tree.Nodes[place].Args[:max(0, len(tree.Nodes[place].Args)-1)]
		if len(whole.Nodes[place].Args) > 0 {
			refuseTree(t, "an Arg too few", g, "2ab", tree)
		}
		tree = copied()
		tree.Nodes[place].Kids = tree.Nodes[place].Kids[:max(0, len(tree.Nodes[place].Kids)-1)]
		if len(whole.Nodes[place].Kids) > 0 {
			refuseTree(t, "a Kid too few", g, "2ab", tree)
		}
	}
	takeTree(t, "the tree itself", g, "2ab", copied())
	takeTree(t, "over a longer text", g, "2abc", copied())
	takeTree(t, "of other letters", g, "2zz", copied())
	for _, text := range []string{"", "2", "2a", "3ab", "1ab", "2a1", "a2b", "2ab" + strings.Repeat("c", 10)} {
		refuseTree(t, "another text", g, text, copied())
	}
	takeTree(t, "12 bytes", g, "2ab"+strings.Repeat("c", 9), copied())
}

// Of the Kid that is wanted all is as it is wanted, but for one thing.
func TestKidsThatAreNotWanted(t *testing.T) {
	g := withHelpers(
		ruleOf("S", "", altOf(symText("a"), symBound("k", "D"), symCall("P", asked("k"), number(4)), symText("c"))),
		ruleOf("P", "m n", altOf(symText("b")), altOf(symText("bb"))),
		ruleOf("Q", "m n", altOf(symText("b"))))
	d, whole := treeNode(3, 0, nil, 1, 2), treeNode(0, 0, nil, 0, 4, 0, 1)
	takeTree(t, "as wanted", g, "a7bc", treeOf(d, treeNode(1, 0, []int{7, 4}, 2, 3), whole))
	refuseTree(t, "of another Rule", g, "a7bc", treeOf(d, treeNode(2, 0, []int{7, 4}, 2, 3), whole))
	refuseTree(t, "of other Args", g, "a7bc", treeOf(d, treeNode(1, 0, []int{6, 4}, 2, 3), whole))
	refuseTree(t, "of other Args", g, "a7bc", treeOf(d, treeNode(1, 0, []int{7, 7}, 2, 3), whole))
	refuseTree(t, "of Args turned round", g, "a7bc", treeOf(d, treeNode(1, 0, []int{4, 7}, 2, 3), whole))
	refuseTree(t, "that takes nothing wanted", g, "a7bc", treeOf(d, treeNode(1, 1, []int{7, 4}, 2, 4), whole))
	// b stands at both places: the Kid is right by itself, but not from there.
	refuseTree(t, "of another From", g, "a7bbc", treeOf(d, treeNode(1, 0, []int{7, 4}, 3, 4), treeNode(0, 0, nil, 0, 5, 0, 1)))
	takeTree(t, "that takes more", g, "a7bbc", treeOf(d, treeNode(1, 1, []int{7, 4}, 2, 4), treeNode(0, 0, nil, 0, 5, 0, 1)))
	refuseTree(t, "that takes less", g, "a7bbc", treeOf(d, treeNode(1, 0, []int{7, 4}, 2, 3), treeNode(0, 0, nil, 0, 5, 0, 1)))
	refuseTree(t, "that takes more than the whole says", g, "a7bbc", treeOf(d, treeNode(1, 1, []int{7, 4}, 2, 4), whole))
	refuseTree(t, "the Kids turned round", g, "a7bc", treeOf(treeNode(1, 0, []int{7, 4}, 2, 3), d, whole))
	takeTree(t, "the Kids in another order", g, "a7bc", treeOf(treeNode(1, 0, []int{7, 4}, 2, 3), d, treeNode(0, 0, nil, 0, 4, 1, 0)))
	takeTree(t, "with others between", g, "a7bc", treeOf(d, d, treeNode(1, 0, []int{7, 4}, 2, 3), d, treeNode(0, 0, nil, 0, 4, 1, 2)))
	// An Arg that can't be reckoned, or is none, is of no Kid.
	for _, arg := range []impl.Expr{exprOf(num(1), num(0), pair(impl.ExDiv, 0, 1)), exprOf(num(99), num(1), pair(impl.ExAdd, 0, 1)), exprOf(num(0), num(1), pair(impl.ExSub, 0, 1))} {
		g := grammarOf(ruleOf("S", "", altOf(symCall("N", arg))), ruleOf("N", "n", altOf()))
		for _, n := range []int{0, 1, 99} {
			refuseTree(t, "an Arg that is none", g, "", treeOf(treeNode(1, 0, []int{n}, 0, 0), treeNode(0, 0, nil, 0, 0, 0)))
		}
		noFirst(t, "an Arg that is none", g, "", "S", nil, 0, 0)
	}
	// What is asked for behind a Kid is of what that took.
	asks := oneRule(altOf(symBound("n", "D"), symIf(same(named("n"), num(5)))))
	takeTree(t, "5", asks, "5", treeOf(treeNode(1, 0, nil, 0, 1), treeNode(0, 0, nil, 0, 1, 0)))
	refuseTree(t, "6", asks, "6", treeOf(treeNode(1, 0, nil, 0, 1), treeNode(0, 0, nil, 0, 1, 0)))
}

func wrongGrammars() map[string]impl.Grammar {
	return map[string]impl.Grammar{
		"no rules":           {},
		"a wrong text":       grammarOf(ruleOf("S", "", altOf(), altOf(symText("A")))),
		"a call of none":     grammarOf(ruleOf("S", "", altOf(), altOf(symText("b"), symCall("T")))),
		"an Arg too few":     oneRule(altOf(), altOf(symText("b"), symCall("N"))),
		"an unknown name":    oneRule(altOf(), altOf(symIf(asked("n")))),
		"no Args":            grammarOf(ruleOf("S", "", altOf(), altOf(impl.Sym{Kind: impl.SyIf}))),
		"a wrong Arg":        oneRule(altOf(), altOf(symCall("N", impl.Expr{}))),
		"a Name twice":       grammarOf(ruleOf("S", "", altOf()), ruleOf("S", "", altOf())),
		"a first Param":      grammarOf(ruleOf("S", "n", altOf())),
		"no Alts beside":     grammarOf(ruleOf("S", "", altOf()), ruleOf("T", "")),
		"no Kind":            grammarOf(ruleOf("S", "", altOf(), altOf(impl.Sym{}))),
		"a rule not come to": grammarOf(ruleOf("S", "", altOf()), ruleOf("T", "", altOf(symText("")))),
	}
}

func TestWrongGrammarsHaveNoTrees(t *testing.T) {
	for what, g := range wrongGrammars() {
		for alt := range 3 {
			for _, text := range []string{"", "a", "b"} {
				for _, args := range [][]int{nil, {0}} {
					refuseTree(t, what, g, text, treeOf(treeNode(0, alt, args, 0, 0)))
					refuseTree(t, what, g, text, treeOf(treeNode(0, 0, args, 0, 0), treeNode(0, alt, args, 0, 1, 0)))
					noFirst(t, what, g, text, "S", args, 0, 0)
					noFirst(t, what, g, text, "S", args, 0, len(text))
				}
			}
		}
	}
	refuseTree(t, "31 rules", manyRules(31), "a", treeOf(treeNode(0, 0, nil, 0, 1)))
	takeTree(t, "30 rules", manyRules(30), "a", treeOf(treeNode(29, 0, nil, 0, 1)))
}

func TestWhatDoesNotRunHasNoFirstTree(t *testing.T) {
	g := lengthGrammar()
	for _, name := range []string{"", "s", "T", "Ro", "Rows", "D ", "\x00"} {
		noFirst(t, "no rule", g, "1a", name, nil, 0, 1)
	}
	noFirst(t, "too many goals", countGrammar(altOf(symCall("C", number(0), number(0)))), "y", "S", nil, 0, 1)
	many := countGrammar(altOf(symCall("C", number(0), number(1))))
	if got, ok := checkTree(t, many, "y", "S", nil, 0, 1); !ok || got != "S/1@0-1" {
		t.Errorf("as many goals as there may be: %v, %s", ok, got)
	}
	// TreeOk asks for no goals.
	takeTree(t, "too many goals", countGrammar(altOf(symCall("C", number(0), number(0)))), "y", treeOf(treeNode(0, 1, nil, 0, 1)))
	noFirst(t, "more than 60 nodes", many, "z", "S", nil, 0, 1)
}

// grown has a node for each rule, Args (of 0 to 2), From and To that TreeOk takes, with Kids from those that are there.
func grown(g impl.Grammar, text string) impl.Tree {
	tree := impl.Tree{}
	have := map[string]bool{}
	try := func(node impl.TreeNode) {
		key := fmt.Sprint(node.Rule, node.Args, node.From, node.To)
		if len(tree.Nodes) < 60 && !have[key] && impl.TreeOk(g, text, treeOf(append(slices.Clone(tree.Nodes), node)...)) {
			tree.Nodes = append(tree.Nodes, node)
			have[key] = true
		}
	}
	for before := -1; before < len(tree.Nodes) && len(tree.Nodes) < 60; {
		before = len(tree.Nodes)
		for i, rule := range g.Rules {
			for _, args := range smallArgs(len(rule.Params)) {
				for j, alt := range rule.Alts {
					for from := range len(text) + 1 {
						for _, kids := range kidsFitting(g, tree.Nodes, alt.Syms, from) {
							for to := from; to <= len(text); to++ {
								try(treeNode(i, j, args, from, to, kids...))
							}
						}
					}
				}
			}
		}
	}
	return tree
}

func smallArgs(count int) [][]int {
	if count == 0 {
		return [][]int{nil}
	}
	all := [][]int{}
	for _, ahead := range smallArgs(count - 1) {
		for n := range 3 {
			all = append(all, append(slices.Clone(ahead), n))
		}
	}
	return all
}

// kidsFitting has all rows of nodes that are of the rules which the Syms call, none of them from ahead of where the last one came to.
func kidsFitting(g impl.Grammar, nodes []impl.TreeNode, syms []impl.Sym, from int) [][]int {
	rows := [][]int{{}}
	for _, sym := range syms {
		if sym.Kind != 3 {
			continue
		}
		longer := [][]int{}
		for _, row := range rows {
			at := from
			if len(row) > 0 {
				at = nodes[row[len(row)-1]].To
			}
			for place, node := range nodes {
				if g.Rules[node.Rule].Name == sym.Text && node.From >= at {
					longer = append(longer, append(slices.Clone(row), place))
				}
			}
		}
		rows = longer
	}
	return rows
}

// By TreeOk alone, and by the ends alone: what may be read has a tree, and what has a tree may be read.
func TestWhatHasATreeIsWhatMayBeRead(t *testing.T) {
	s, a, b := symCall("S"), symText("a"), symText("b")
	down := exprOf(named("n"), num(1), pair(impl.ExSub, 0, 1))
	grammars := map[string]impl.Grammar{
		"within":     grammarOf(ruleOf("S", "", altOf(a, s, b), altOf())),
		"left":       grammarOf(ruleOf("S", "", altOf(s, a), altOf(b))),
		"both sides": grammarOf(ruleOf("S", "", altOf(s, s), altOf(a), altOf(b))),
		"circles":    grammarOf(ruleOf("S", "", altOf(symCall("T")), altOf(a)), ruleOf("T", "", altOf(s, b), altOf(symCall("U"))), ruleOf("U", "", altOf(s), altOf())),
		"numbers":    grammarOf(ruleOf("S", "", altOf(symCall("R", number(2)))), ruleOf("R", "n", altOf(symIf(asked("n")), symSet("ab"), symCall("R", down)), altOf(symIf(exprOf(named("n"), not(0)))))),
		"bound":      grammarOf(ruleOf("S", "", altOf(symBound("n", "T"), b, symCall("R", asked("n")))), ruleOf("T", "", altOf(), altOf(a), altOf(a, a)), ruleOf("R", "n", altOf(symIf(same(named("n"), num(1))), a), altOf(symIf(same(named("n"), num(0)))))),
	}
	for seed := range 60 {
		if g := smallGrammar(seeded(seed)); len(g.Rules) < 4 {
			grammars[fmt.Sprint("seed ", seed)] = g
		}
	}
	compared := 0
	for what, g := range grammars {
		for _, text := range []string{"", "a", "ab", "aab", "aba"} {
			if strings.HasPrefix(what, "seed") && len(text) > 2 {
				continue
			}
			tree := grown(g, text)
			full := len(tree.Nodes) == 60
			for i, rule := range g.Rules {
				for _, args := range smallArgs(len(rule.Params)) {
					for from := range len(text) + 1 {
						_, runs := impl.RunGoal(g, text, rule.Name, args, from)
						ends := impl.EndsOf(g, text, rule.Name, args, from)
						found := []int{}
						for _, node := range tree.Nodes {
							if node.Rule == i && slices.Equal(node.Args, args) && node.From == from {
								found = append(found, node.To)
							}
						}
						slices.Sort(found)
						for _, to := range found {
							if runs && !slices.Contains(ends, to) {
								t.Fatalf("%s, %q: %s%v from %d to %d has a tree, and is not read\n%v", what, text, rule.Name, args, from, to, g)
							}
						}
						// Args beyond the small ones are of no node here.
						if runs && !full && !strings.HasPrefix(what, "seed") && !slices.Equal(found, ends) {
							t.Fatalf("%s, %q: %s%v from %d has trees to %v, and ends %v", what, text, rule.Name, args, from, found, ends)
						}
						compared += len(found)
					}
				}
			}
		}
	}
	if compared < 500 {
		t.Errorf("only %d were compared", compared)
	}
}

func TestFirstTreesOfManySeeds(t *testing.T) {
	t.Parallel()
	const seeds = 1200
	trees, high, ranked := 0, 0, 0
	for seed := range seeds {
		next := seeded(seed)
		g := smallGrammar(next)
		text := ""
		for range next(6) {
			text += string("ab1"[next(3)])
		}
		rule := g.Rules[next(len(g.Rules))]
		args := []int{}
		for range rule.Params {
			args = append(args, next(4))
		}
		from := next(len(text) + 1)
		trees += checkTrees(t, g, text, rule.Name, args, from)
		for _, to := range impl.EndsOf(g, text, rule.Name, args, from) {
			tree, ok := impl.FirstTree(g, text, rule.Name, args, from, to)
			if !ok {
				continue
			}
			high += oneOf(impl.HeightOf(tree) > 3)
			ranked += oneOf(rankless(g, text, tree) != treePicture(g, tree))
			spoilTree(t, next, g, text, tree)
		}
	}
	if trees < seeds/2 || high < seeds/20 || ranked < seeds/20 {
		t.Errorf("of %d: %d trees, %d of them high, %d by rank", seeds, trees, high, ranked)
	}
}

// rankless is the picture of the whole alone with the first Alt and the least ends that take it, whatever their rank.
func rankless(g impl.Grammar, text string, tree impl.Tree) string {
	whole := tree.Nodes[len(tree.Nodes)-1]
	rule := g.Rules[whole.Rule]
	c, _ := slowRun(g, text, rule.Name, whole.Args, whole.From)
	for i, alt := range rule.Alts {
		for _, way := range slowWays(g, text, c, alt.Syms, slowKnown(rule, whole.Args), whole.From, whole.To) {
			if i != whole.Alt {
				return "another Alt"
			}
			for j, kid := range way {
				if tree.Nodes[whole.Kids[j]].To != kid.to {
					return "another end"
				}
			}
			return treePicture(g, tree)
		}
	}
	return "none"
}

// turnedTree is the tree with one number of one node turned a little, or not at all.
func turnedTree(next func(n int) int, tree impl.Tree) impl.Tree {
	turned := impl.Tree{Nodes: slices.Clone(tree.Nodes)}
	node := &turned.Nodes[next(len(turned.Nodes))]
	node.Args, node.Kids = slices.Clone(node.Args), slices.Clone(node.Kids)
	fields := []*int{&node.Rule, &node.Alt, &node.From, &node.To}
	for i := range node.Args {
		fields = append(fields, &node.Args[i])
	}
	for i := range node.Kids {
		fields = append(fields, &node.Kids[i])
	}
	*fields[next(len(fields))] += next(5) - 2
	return turned
}

// spoilTree turns one number of one node, and holds what is answered then against what is answered slowly.
func spoilTree(t *testing.T, next func(n int) int, g impl.Grammar, text string, tree impl.Tree) {
	t.Helper()
	for range 4 {
		spoiled := turnedTree(next, tree)
		if got, want := impl.TreeOk(g, text, spoiled), slowTreeOk(g, text, spoiled); got != want {
			t.Fatalf("TreeOk(%v, %q, %v) = %v", g, text, spoiled, got)
		}
		if got, want := impl.TreeText(g, spoiled), slowTreeText(g, spoiled); got != want {
			t.Fatalf("TreeText(%v, %v) = %q, not %q", g, spoiled, got, want)
		}
		if got, want := impl.HeightOf(spoiled), slowHeight(spoiled); got != want {
			t.Fatalf("HeightOf(%v) = %d, not %d", spoiled, got, want)
		}
	}
}

// checkTold wants the text of a tree, also held against the slow one.
func checkTold(t *testing.T, what string, g impl.Grammar, tree impl.Tree, want string) {
	t.Helper()
	if got := impl.TreeText(g, tree); got != want || got != slowTreeText(g, tree) {
		t.Errorf("%s: TreeText = %q, not %q (slowly %q)", what, got, want, slowTreeText(g, tree))
	}
}

func TestTreeTexts(t *testing.T) {
	g := grammarOf(ruleOf("S", "", altOf()), ruleOf("Row", "n", altOf()), ruleOf("D", "", altOf()))
	leaf := treeNode(2, 0, nil, 0, 0)
	checkTold(t, "one", g, treeOf(leaf), "D()")
	checkTold(t, "one Kid", g, treeOf(leaf, treeNode(1, 0, nil, 0, 0, 0)), "Row(D())")
	checkTold(t, "three Kids", g, treeOf(leaf, treeNode(1, 0, nil, 0, 0), leaf, treeNode(0, 0, nil, 0, 0, 0, 1, 2)), "S(D() Row() D())")
	checkTold(t, "Kids in their order", g, treeOf(leaf, treeNode(1, 0, nil, 0, 0), treeNode(0, 0, nil, 0, 0, 1, 0)), "S(Row() D())")
	checkTold(t, "one Kid twice", g, treeOf(leaf, treeNode(0, 0, nil, 0, 0, 0, 0)), "S(D() D())")
	checkTold(t, "the whole is the last", g, treeOf(leaf, treeNode(0, 0, nil, 0, 0, 0), treeNode(1, 0, nil, 0, 0)), "Row()")
	checkTold(t, "none", g, impl.Tree{}, "")
	checkTold(t, "none of none", impl.Grammar{}, impl.Tree{}, "")
	// All else of a node, and all else of the grammar, is not looked at.
	checkTold(t, "wrong nodes", g, treeOf(treeNode(1, -7, []int{500}, 77, -1), treeNode(0, 99, []int{-1, -1}, -5, greatestInt, 0, 0, 0)), "S(Row() Row() Row())")
	checkTold(t, "a wrong grammar", impl.Grammar{Rules: []impl.Rule{{Name: ""}, {Name: "a b\x00("}}}, treeOf(treeNode(1, 0, nil, 0, 0), treeNode(0, 0, nil, 0, 0, 0)), "(a b\x00(())")
	for _, rule := range []int{leastInt, -1, 3, 4, greatestInt} {
		checkTold(t, "no Rule of the whole", g, treeOf(leaf, treeNode(rule, 0, nil, 0, 0, 0)), "")
		checkTold(t, "no Rule of a Kid", g, treeOf(treeNode(rule, 0, nil, 0, 0), treeNode(0, 0, nil, 0, 0, 0)), "")
		checkTold(t, "no Rule of a node that is not come to", g, treeOf(treeNode(rule, 0, nil, 0, 0), leaf), "")
	}
	checkTold(t, "a grammar without rules", impl.Grammar{}, treeOf(leaf), "")
	for _, kid := range []int{leastInt, -1, 1, 2, 3, greatestInt} {
		checkTold(t, "a Kid not ahead", g, treeOf(leaf, treeNode(0, 0, nil, 0, 0, kid)), "")
		checkTold(t, "a Kid not ahead of a node that is not come to", g, treeOf(leaf, treeNode(0, 0, nil, 0, 0, kid), leaf), "")
	}
}

func TestTreeTextsAsLongAsTheyMayBe(t *testing.T) {
	g := grammarOf(ruleOf("S", "", altOf()))
	// Each node is told in 3 bytes, and each Kid but the first in one more.
	row := func(count, kids int) impl.Tree {
		tree := treeOf(treeNode(0, 0, nil, 0, 0))
		for len(tree.Nodes) < count-kids {
			tree.Nodes = append(tree.Nodes, treeNode(0, 0, nil, 0, 0, len(tree.Nodes)-1))
		}
		last := treeNode(0, 0, nil, 0, 0, len(tree.Nodes)-1)
		for range kids - 1 {
			last.Kids = append(last.Kids, 0)
		}
		tree.Nodes = append(tree.Nodes, last)
		return tree
	}
	for kids := 1; kids < 8; kids++ {
		for count := 660; count < 670; count++ {
			tree := row(count, kids)
			length := 3*count + kids - 1
			got := impl.TreeText(g, tree)
			if got != slowTreeText(g, tree) || len(got) != length*oneOf(length <= 2000) {
				t.Errorf("%d nodes, %d Kids: %d bytes, not %d", count, kids, len(got), length)
			}
			// What the whole does not come to counts as well.
			tree.Nodes = append(tree.Nodes, treeNode(0, 0, nil, 0, 0))
			want := "S()"
			if length > 2000 {
				want = ""
			}
			checkTold(t, "not come to", g, tree, want)
		}
	}
	for length := 1990; length < 2010; length++ {
		long := impl.Grammar{Rules: []impl.Rule{{Name: strings.Repeat("x", length-2)}, {Name: "S"}}}
		want := long.Rules[0].Name + "()"
		if length > 2000 {
			want = ""
		}
		checkTold(t, "a long Name", long, treeOf(treeNode(0, 0, nil, 0, 0)), want)
		checkTold(t, "a long Name that is not come to", long, treeOf(treeNode(0, 0, nil, 0, 0), treeNode(1, 0, nil, 0, 0)), "S()"[:3*oneOf(length <= 2000)])
		checkTold(t, "a long Name of a Kid", long, treeOf(treeNode(0, 0, nil, 0, 0), treeNode(1, 0, nil, 0, 0, 0)), ("S(" + want + ")")[:(3+length)*oneOf(length <= 1997)])
	}
	// 666 nodes and two blanks are 2000 bytes, and with a third blank 2001.
	if got := impl.TreeText(g, row(666, 3)); len(got) != 2000 {
		t.Errorf("%d bytes, not 2000", len(got))
	}
	if got := impl.TreeText(g, row(666, 4)); got != "" {
		t.Errorf("%d bytes of 2001", len(got))
	}
	// A Kid many times over: more than could ever be told, and so many Kids that the blanks alone are too many.
	tree := treeOf(treeNode(0, 0, nil, 0, 0))
	for i := range 200 {
		tree.Nodes = append(tree.Nodes, treeNode(0, 0, nil, 0, 0, i, i, i, i, i, i, i, i))
	}
	checkTold(t, "eight of each", g, tree, "")
	checkTold(t, "many Kids", g, treeOf(tree.Nodes[0], treeNode(0, 0, nil, 0, 0, make([]int, 100000)...)), "")
	checkTold(t, "as many Kids as may be", g, treeOf(tree.Nodes[0], treeNode(0, 0, nil, 0, 0, make([]int, 499)...)), "S("+strings.TrimSuffix(strings.Repeat("S() ", 499), " ")+")")
	checkTold(t, "a Kid too many", g, treeOf(tree.Nodes[0], treeNode(0, 0, nil, 0, 0, make([]int, 500)...)), "")
}

func checkHeight(t *testing.T, what string, tree impl.Tree, want int) {
	t.Helper()
	if got := impl.HeightOf(tree); got != want || slowHeight(tree) != want {
		t.Errorf("%s: HeightOf = %d, not %d (slowly %d)", what, got, want, slowHeight(tree))
	}
}

func TestHeights(t *testing.T) {
	leaf := treeNode(0, 0, nil, 0, 0)
	above := func(kids ...int) impl.TreeNode { return treeNode(0, 0, nil, 0, 0, kids...) }
	checkHeight(t, "none", impl.Tree{}, 0)
	checkHeight(t, "one", treeOf(leaf), 1)
	checkHeight(t, "a Kid", treeOf(leaf, above(0)), 2)
	checkHeight(t, "two Kids", treeOf(leaf, leaf, above(0, 1)), 2)
	checkHeight(t, "the first Kid higher", treeOf(leaf, above(0), leaf, above(1, 2)), 3)
	checkHeight(t, "the last Kid higher", treeOf(leaf, leaf, above(1), above(0, 2)), 3)
	checkHeight(t, "one between higher", treeOf(leaf, above(0), above(1), above(0, 2, 1)), 4)
	checkHeight(t, "higher, but not come to", treeOf(leaf, above(0), above(1), above(0)), 2)
	checkHeight(t, "the whole alone", treeOf(leaf, above(0), above(1), leaf), 1)
	checkHeight(t, "one Kid twice", treeOf(leaf, above(0, 0)), 2)
	checkHeight(t, "wrong nodes", treeOf(treeNode(-1, 77, []int{-5}, -1, 99), treeNode(99, -1, nil, 5, 2, 0)), 2)
	for _, kid := range []int{leastInt, -1, 1, 2, greatestInt} {
		checkHeight(t, "a Kid not ahead", treeOf(leaf, above(kid)), 0)
		checkHeight(t, "a second Kid not ahead", treeOf(leaf, above(0, kid)), 0)
		checkHeight(t, "a Kid not ahead of a node that is not come to", treeOf(leaf, above(kid), leaf), 0)
	}
	checkHeight(t, "the first node its own Kid", treeOf(above(0)), 0)
	checkHeight(t, "two, each the other's Kid", treeOf(above(1), above(0)), 0)
	row, twice := treeOf(leaf), treeOf(leaf)
	for i := range 300 {
		row.Nodes = append(row.Nodes, above(i))
		twice.Nodes = append(twice.Nodes, above(i, i, i/2))
		checkHeight(t, "a row", row, i+2)
		checkHeight(t, "each Kid twice", twice, i+2)
	}
	for i := 300; i < 200000; i++ {
		row.Nodes = append(row.Nodes, above(i))
	}
	if got := impl.HeightOf(row); got != 200001 {
		t.Errorf("HeightOf a long row = %d", got)
	}
}

// roomyTree is the tree in memory of its own, with room behind its lists that is filled.
func roomyTree(tree impl.Tree) impl.Tree {
	nodes := roomyList(tree.Nodes, treeNode(77, 77, []int{77}, 77, 77, 77))
	for i := range nodes {
		nodes[i].Args, nodes[i].Kids = roomyList(nodes[i].Args, 77), roomyList(nodes[i].Kids, 77)
	}
	return impl.Tree{Nodes: nodes}
}

func roomyTreePicture(tree impl.Tree) string {
	picture := fmt.Sprint(len(tree.Nodes), tree.Nodes[:cap(tree.Nodes)])
	for _, node := range tree.Nodes {
		picture += fmt.Sprint(node.Args[:cap(node.Args)], node.Kids[:cap(node.Kids)])
	}
	return picture
}

func TestTreesShareNoMemory(t *testing.T) {
	grammars := map[string]impl.Grammar{"a length": lengthGrammar(), "operators": climbGrammar(), "twice": wideGrammar(3), "deep": deepGrammar(20)}
	for seed := range 120 {
		grammars[fmt.Sprint("seed ", seed)] = smallGrammar(seeded(seed))
	}
	for what, plain := range grammars {
		for _, rule := range plain.Rules {
			g := roomyGrammar(plain)
			text := strings.Clone("1ab1")
			args := roomyList(slices.Repeat([]int{2}, len(rule.Params)), 77)
			picture := func() string { return grammarPicture(g) + fmt.Sprint(args[:cap(args)]) + text }
			before := picture()
			for to := range 5 {
				tree, ok := impl.FirstTree(g, text, rule.Name, args, 0, to)
				if !ok {
					continue
				}
				lists := [][]int{args}
				for _, node := range tree.Nodes {
					lists = append(lists, node.Args, node.Kids)
				}
				for i, list := range lists {
					for _, other := range lists[i+1:] {
						if sharesInts(list, other) {
							t.Fatalf("%s: %v shares memory with %v", what, list, other)
						}
					}
				}
				roomy := roomyTree(tree)
				was := roomyTreePicture(roomy)
				right, told, height := impl.TreeOk(g, text, roomy), impl.TreeText(g, roomy), impl.HeightOf(roomy)
				if after := roomyTreePicture(roomy); after != was || !right || height != slowHeight(tree) || told != slowTreeText(g, tree) {
					t.Fatalf("%s: the tree is changed, or not as it was:\n%s\nwas\n%s", what, after, was)
				}
				for _, other := range g.Rules {
					if shares(told, other.Name) {
						t.Fatalf("%s: %q shares memory with a Name", what, told)
					}
				}
			}
			if after := picture(); after != before {
				t.Fatalf("%s: an argument is changed:\n%s\nwas\n%s", what, after, before)
			}
		}
	}
}

// What stands in the room behind a list is not of it.
func TestRoomBehindListsOfTreesIsNotLookedAt(t *testing.T) {
	g := lengthGrammar()
	tree, _ := impl.FirstTree(g, "2ab", "S", nil, 0, 3)
	for place := range tree.Nodes {
		cut := roomyTree(tree)
		cut.Nodes = cut.Nodes[:place]
		if got, want := impl.TreeOk(g, "2ab", cut), place > 0; got != want {
			t.Errorf("of %d nodes: %v", place, got)
		}
		cut = roomyTree(tree)
		node := &cut.Nodes[place]
		if len(node.Kids) > 0 {
			node.Kids = node.Kids[:len(node.Kids)-1]
			refuseTree(t, "a Kid behind the list", g, "2ab", cut)
		}
	}
}

func TestTreesAnswerTheSameAgain(t *testing.T) {
	g := climbGrammar()
	first, _ := checkTree(t, g, "1+2^3+4", "S", nil, 0, 7)
	for range 100 {
		again, ok := impl.FirstTree(g, "1+2^3+4", "S", nil, 0, 7)
		if !ok || treePicture(g, again) != first || !impl.TreeOk(g, "1+2^3+4", again) {
			t.Fatalf("FirstTree answers\n%s\nand then\n%s", first, treePicture(g, again))
		}
		// What is refused leaves nothing behind, and what was answered may be written over.
		impl.FirstTree(deepGrammar(70), "", "S", nil, 0, 0)
		for _, node := range again.Nodes {
			for i := range node.Args {
				node.Args[i] = -1
			}
			for i := range node.Kids {
				node.Kids[i] = -1
			}
		}
		if impl.TreeOk(g, "1+2^3+4", again) || impl.HeightOf(again) != 0 || impl.TreeText(g, again) != "" {
			t.Fatal("what was written over is still taken")
		}
	}
}
