package tests

import (
	"fmt"
	"math/big"
	"slices"
	"strings"
	"testing"

	"loop.example/g00243/impl"
)

// slowNext are the places that a Sym may come to: of one that is no call the one that it comes to, of a call all up to the last one.
func slowNext(text string, sym impl.Sym, known []impl.Var, at, to int) []int {
	if sym.Kind != 3 {
		s := &slowRunner{text: text}
		return s.paths([]impl.Sym{sym}, known, at)
	}
	places := []int{}
	for end := at; end <= to; end++ {
		places = append(places, end)
	}
	return places
}

// slowCounter counts without a chart: every Kid is tried to every end, and has trees there or none.
type slowCounter struct {
	g     impl.Grammar
	text  string
	known map[string]*big.Int
}

func (s *slowCounter) trees(rule int, args []int, from, to, height int) *big.Int {
	sum := new(big.Int)
	if height < 1 {
		return sum
	}
	key := fmt.Sprint(rule, args, from, to, height)
	if s.known[key] == nil {
		for _, alt := range s.g.Rules[rule].Alts {
			sum.Add(sum, s.rows(alt.Syms, slowKnown(s.g.Rules[rule], args), from, to, height))
		}
		s.known[key] = sum
	}
	return s.known[key]
}

func (s *slowCounter) rows(syms []impl.Sym, known []impl.Var, at, to, height int) *big.Int {
	sum := new(big.Int)
	if len(syms) == 0 {
		return sum.SetInt64(int64(oneOf(at == to)))
	}
	args, ok := []int{}, true
	if syms[0].Kind == 3 {
		args, ok = slowArgs(syms[0], known, at)
	}
	if !ok {
		return sum
	}
	for _, end := range slowNext(s.text, syms[0], known, at, to) {
		trees, with := big.NewInt(1), known
		if syms[0].Kind == 3 {
			trees = s.trees(impl.RuleAt(s.g, syms[0].Text), args, at, end, height-1)
			with = append(slices.Clone(known), impl.Var{Name: syms[0].Bind, Num: slowBindNum(s.text[at:end])})
		}
		if trees.Sign() > 0 {
			sum.Add(sum, new(big.Int).Mul(trees, s.rows(syms[1:], with, end, to, height)))
		}
	}
	return sum
}

// slowCounts answers a count for a to and a height, so that the goal is run only once for all of these.
func slowCounts(g impl.Grammar, text, name string, args []int, from int) func(to, height int) int {
	_, ok := slowRun(g, text, name, args, from)
	s := &slowCounter{g, text, map[string]*big.Int{}}
	return func(to, height int) int {
		if !ok || to < from || to > len(text) {
			return 0
		}
		count := s.trees(impl.RuleAt(g, name), args, from, to, min(height, 8))
		if count.Cmp(big.NewInt(1000000)) > 0 {
			return 1000000
		}
		return int(count.Int64())
	}
}

// slowLister lists without a chart, all there are ahead of cutting them.
type slowLister struct {
	g     impl.Grammar
	text  string
	most  int
	known map[string][]impl.Tree
}

// joined is the nodes of Kids, one behind the other, and the node above them.
func joined(node impl.TreeNode, kids []impl.Tree) impl.Tree {
	tree := impl.Tree{}
	node.Kids = nil
	for _, kid := range kids {
		behind := len(tree.Nodes)
		for _, below := range kid.Nodes {
			moved := []int{}
			for _, place := range below.Kids {
				moved = append(moved, place+behind)
			}
			below.Kids = moved
			tree.Nodes = append(tree.Nodes, below)
		}
		node.Kids = append(node.Kids, len(tree.Nodes)-1)
	}
	tree.Nodes = append(tree.Nodes, node)
	return tree
}

func nodesOf(trees []impl.Tree) int {
	count := 0
	for _, tree := range trees {
		count += len(tree.Nodes)
	}
	return count
}

func (s *slowLister) trees(rule int, args []int, from, to, height int) []impl.Tree {
	if height < 1 {
		return nil
	}
	key := fmt.Sprint(rule, args, from, to, height)
	if list, there := s.known[key]; there {
		return list
	}
	list := []impl.Tree{}
	for i, alt := range s.g.Rules[rule].Alts {
		for _, kids := range s.rows(alt.Syms, slowKnown(s.g.Rules[rule], args), from, to, height) {
			if tree := joined(treeNode(rule, i, args, from, to), kids); len(tree.Nodes) <= 60 {
				list = append(list, tree)
			}
		}
	}
	s.known[key] = list[:min(s.most, len(list))]
	return s.known[key]
}

func (s *slowLister) rows(syms []impl.Sym, known []impl.Var, at, to, height int) [][]impl.Tree {
	if len(syms) == 0 {
		return [][]impl.Tree{{}}[:oneOf(at == to)]
	}
	list := [][]impl.Tree{}
	for _, end := range slowNext(s.text, syms[0], known, at, to) {
		if syms[0].Kind != 3 {
			return s.rows(syms[1:], known, end, to, height)
		}
		args, ok := slowArgs(syms[0], known, at)
		if !ok {
			return nil
		}
		trees := s.trees(impl.RuleAt(s.g, syms[0].Text), args, at, end, height-1)
		if len(trees) == 0 {
			continue
		}
		with := append(slices.Clone(known), impl.Var{Name: syms[0].Bind, Num: slowBindNum(s.text[at:end])})
		rests := s.rows(syms[1:], with, end, to, height)
		for _, tree := range trees {
			for _, rest := range rests {
				if len(tree.Nodes)+nodesOf(rest) < 60 {
					list = append(list, append([]impl.Tree{tree}, rest...))
				}
			}
		}
	}
	return list[:min(s.most, len(list))]
}

func slowList(g impl.Grammar, text string, height, most int) []impl.Tree {
	if len(g.Rules) == 0 || most < 1 {
		return nil
	}
	if _, ok := slowRun(g, text, g.Rules[0].Name, nil, 0); !ok {
		return nil
	}
	s := &slowLister{g, text, min(most, 12), map[string][]impl.Tree{}}
	return s.trees(0, nil, 0, len(text), min(height, 8))
}

func pictures(g impl.Grammar, trees []impl.Tree) string {
	told := []string{}
	for _, tree := range trees {
		told = append(told, treePicture(g, tree))
	}
	return strings.Join(told, "\n")
}

func countIs(t *testing.T, what string, g impl.Grammar, text string, height, want int) {
	t.Helper()
	name := g.Rules[0].Name
	if got := impl.CountTrees(g, text, name, nil, 0, len(text), height); got != want {
		t.Errorf("%s, %q, at most %d high: CountTrees = %d, not %d", what, text, height, got, want)
	}
	if got := slowCounts(g, text, name, nil, 0)(len(text), height); got != want {
		t.Errorf("%s, %q, at most %d high: slowly counted %d, not %d", what, text, height, got, want)
	}
}

// countsAre wants so many trees of at most 1, 2, 3 .. high, and of all heights behind these as many as of the last one.
func countsAre(t *testing.T, what string, g impl.Grammar, text string, want ...int) {
	t.Helper()
	for height := -1; height <= 10; height++ {
		if height < 1 {
			countIs(t, what, g, text, height, 0)
		} else {
			countIs(t, what, g, text, height, want[min(height, len(want))-1])
		}
	}
	checkLists(t, g, text)
}

// checkCounts holds the counts of a goal against the slow ones, to every place and of every height, and wants them to be more where they may be higher; it answers the greatest.
func checkCounts(t *testing.T, g impl.Grammar, text, name string, args []int, from int) int {
	t.Helper()
	greatest, slowly := 0, slowCounts(g, text, name, args, from)
	for to := -2; to <= len(text)+2; to++ {
		before := 0
		for height := -1; height <= 9; height++ {
			got := impl.CountTrees(g, text, name, args, from, to, height)
			if want := slowly(to, height); got != want {
				t.Fatalf("CountTrees(%v, %q, %q, %v, %d, %d, %d) = %d, not %d", g, text, name, args, from, to, height, got, want)
			}
			if got < before {
				t.Fatalf("%v, %q, %q, %v, %d, %d: %d trees of at most %d, and %d below that", g, text, name, args, from, to, got, height, before)
			}
			before = got
		}
		greatest = max(greatest, before)
	}
	return greatest
}

// checkListed holds what is listed against what is said of each tree: each is one, of all of the text, not too high, and not another.
func checkListed(t *testing.T, g impl.Grammar, text string, height, most int, list []impl.Tree) {
	t.Helper()
	seen := map[string]bool{}
	for _, tree := range list {
		picture := treePicture(g, tree)
		whole := tree.Nodes[len(tree.Nodes)-1]
		if !impl.TreeOk(g, text, tree) || !slowTreeOk(g, text, tree) || whole.Rule != 0 || whole.From != 0 || whole.To != len(text) {
			t.Fatalf("ListTrees(%v, %q, %d, %d): no tree of the text: %s", g, text, height, most, picture)
		}
		if impl.HeightOf(tree) > min(height, 8) || seen[picture] {
			t.Fatalf("ListTrees(%v, %q, %d, %d): too high, or twice: %s", g, text, height, most, picture)
		}
		seen[picture] = true
	}
	if len(list) > max(0, min(most, 12)) {
		t.Fatalf("ListTrees(%v, %q, %d, %d): %d trees", g, text, height, most, len(list))
	}
}

// checkList holds ListTrees also against the slow list, and answers its trees.
func checkList(t *testing.T, g impl.Grammar, text string, height, most int) []impl.Tree {
	t.Helper()
	list := impl.ListTrees(g, text, height, most)
	if got, want := pictures(g, list), pictures(g, slowList(g, text, height, most)); got != want {
		t.Fatalf("ListTrees(%v, %q, %d, %d):\n%s\nnot\n%s", g, text, height, most, got, want)
	}
	checkListed(t, g, text, height, most, list)
	return list
}

// checkLists wants as many trees listed as are counted, as far as they are asked for; it is for grammars none of whose trees, and rows of these, are too great.
func checkLists(t *testing.T, g impl.Grammar, text string) {
	t.Helper()
	for height := -1; height <= 9; height++ {
		count := impl.CountTrees(g, text, g.Rules[0].Name, nil, 0, len(text), height)
		longest := pictures(g, checkList(t, g, text, height, 12))
		for most := -1; most <= 14; most++ {
			list := checkList(t, g, text, height, most)
			if len(list) != max(0, min(most, 12, count)) {
				t.Fatalf("%v, %q: of %d trees of at most %d high, %d are listed of at most %d", g, text, count, height, len(list), most)
			}
			// Fewer trees are the first of more.
			if !strings.HasPrefix(longest, pictures(g, list)) {
				t.Fatalf("%v, %q: the first %d of at most %d high:\n%s\nnot of\n%s", g, text, most, height, pictures(g, list), longest)
			}
		}
	}
}

// listIs wants just these trees, told by TreeText, of any height that may be.
func listIs(t *testing.T, what string, g impl.Grammar, text string, want ...string) {
	t.Helper()
	checkLists(t, g, text)
	got := []string{}
	for _, tree := range impl.ListTrees(g, text, 8, 12) {
		got = append(got, impl.TreeText(g, tree))
	}
	if !slices.Equal(got, want) {
		t.Errorf("%s, %q:\n%s\nnot\n%s", what, text, strings.Join(got, "\n"), strings.Join(want, "\n"))
	}
}

// picturesAre wants just these trees, told node by node.
func picturesAre(t *testing.T, what string, g impl.Grammar, text string, height, most int, want ...string) {
	t.Helper()
	if got := pictures(g, checkList(t, g, text, height, most)); got != strings.Join(want, "\n") {
		t.Errorf("%s, %q:\n%s\nnot\n%s", what, text, got, strings.Join(want, "\n"))
	}
}

func bothSides() impl.Grammar {
	return grammarOf(ruleOf("S", "", altOf(symCall("S"), symCall("S")), altOf(symText("a"))))
}

func TestCountsThatAreKnown(t *testing.T) {
	s, a, b := symCall("S"), symText("a"), symText("b")
	within := grammarOf(ruleOf("S", "", altOf(a, s, b), altOf()))
	countsAre(t, "no way", within, "a", 0)
	countsAre(t, "no way", within, "ba", 0)
	countsAre(t, "nothing", within, "", 1)
	countsAre(t, "one way", within, "ab", 0, 1)
	countsAre(t, "one way, higher", within, "aabb", 0, 0, 1)
	countsAre(t, "a length", lengthGrammar(), "3abc", 0, 0, 0, 0, 1)
	countsAre(t, "too long", lengthGrammar(), "3abcd", 0)
	countsAre(t, "two operators", climbGrammar(), "1+2^3", 0, 0, 0, 0, 1)
	countsAre(t, "two Alts alike", grammarOf(ruleOf("S", "", altOf(a), altOf(b), altOf(a), altOf(symSet("a-c")))), "a", 3)
	signs := grammarOf(ruleOf("S", "", altOf(s, symText("+"), s), altOf(a)))
	countsAre(t, "a sum of three", signs, "a+a+a", 0, 0, 2)
	countsAre(t, "a sum of four", signs, "a+a+a+a", 0, 0, 1, 5)
	// Two at a time, so many as there are ways to put brackets; of nine there are 128 that are 9 high.
	for i, want := range []int{1, 1, 2, 5, 14, 42, 132, 429, 1430 - 128} {
		countIs(t, "both sides", bothSides(), strings.Repeat("a", i+1), 8, want)
	}
	countsAre(t, "two", bothSides(), "aa", 0, 1)
	countsAre(t, "four", bothSides(), "aaaa", 0, 0, 1, 5)
	countsAre(t, "five", bothSides(), "aaaaa", 0, 0, 0, 6, 14)
	countsAre(t, "eight", bothSides(), "aaaaaaaa", 0, 0, 0, 1, 69, 221, 365, 429)
}

func TestListsThatAreKnown(t *testing.T) {
	s, a, b := symCall("S"), symText("a"), symText("b")
	within := grammarOf(ruleOf("S", "", altOf(a, s, b), altOf()))
	listIs(t, "no way", within, "a")
	listIs(t, "nothing", within, "", "S()")
	listIs(t, "one way", within, "aabb", "S(S(S()))")
	listIs(t, "a length", lengthGrammar(), "2ab", "S(D() Row(Row(Row())))")
	listIs(t, "operators", climbGrammar(), "1+2^3", "S(E(E(A()) E(E(A()) E(A()))))")
	listIs(t, "two", bothSides(), "aa", "S(S() S())")
	listIs(t, "three", bothSides(), "aaa", "S(S() S(S() S()))", "S(S(S() S()) S())")
	listIs(t, "four", bothSides(), "aaaa",
		"S(S() S(S() S(S() S())))", "S(S() S(S(S() S()) S()))", "S(S(S() S()) S(S() S()))", "S(S(S() S(S() S())) S())", "S(S(S(S() S()) S()) S())")
	picturesAre(t, "three, node by node", bothSides(), "aaa", 8, 12,
		"S/1@0-1; S/1@1-2; S/1@2-3; S/0@1-3 1 2; S/0@0-3 0 3", "S/1@0-1; S/1@1-2; S/0@0-2 0 1; S/1@2-3; S/0@0-3 2 3")
	picturesAre(t, "a length, node by node", lengthGrammar(), "1a", 8, 12, "D/0@0-1; Row0/0@2-2; Row1/1@1-2 1; S/0@0-2 0 2")
	// The lowest alone.
	picturesAre(t, "four, not high", bothSides(), "aaaa", 3, 12, "S/1@0-1; S/1@1-2; S/0@0-2 0 1; S/1@2-3; S/1@3-4; S/0@2-4 3 4; S/0@0-4 2 5")
}

// The Alts first, then the first Kid's end, then its trees, and the next Kid last.
func TestTheOrderOfLists(t *testing.T) {
	a, u := symText("a"), symCall("U")
	two := ruleOf("T", "", altOf(symText("aa")), altOf(a), altOf(symSet("a")))
	g := grammarOf(ruleOf("S", "", altOf(symCall("T"), u)), two, ruleOf("U", "", altOf(symSet("a")), altOf(symText("aa")), altOf(a)))
	picturesAre(t, "two of each", g, "aa", 8, 12,
		"T/1@0-1; U/0@1-2; S/0@0-2 0 1", "T/1@0-1; U/2@1-2; S/0@0-2 0 1", "T/2@0-1; U/0@1-2; S/0@0-2 0 1", "T/2@0-1; U/2@1-2; S/0@0-2 0 1")
	// The least end of T first, though that of its first Alt is greater.
	picturesAre(t, "two ends", g, "aaa", 8, 12,
		"T/1@0-1; U/1@1-3; S/0@0-3 0 1", "T/2@0-1; U/1@1-3; S/0@0-3 0 1", "T/0@0-2; U/0@2-3; S/0@0-3 0 1", "T/0@0-2; U/2@2-3; S/0@0-3 0 1")
	countsAre(t, "two ends", g, "aaa", 0, 4)
	// The first Alt has the greater end of T, and comes first.
	g = grammarOf(ruleOf("S", "", altOf(symCall("T"), a), altOf(symCall("T"), symText("aa")), altOf(symText("aaa"))), two)
	picturesAre(t, "Alts", g, "aaa", 8, 12, "T/0@0-2; S/0@0-3 0", "T/1@0-1; S/1@0-3 0", "T/2@0-1; S/1@0-3 0", "S/2@0-3")
	// Three Kids: of the same first Kid the second one's end decides, then its trees, then the third one's.
	g = grammarOf(ruleOf("S", "", altOf(u, u, u)), ruleOf("U", "", altOf(symText("aa")), altOf(a), altOf()))
	picturesAre(t, "three Kids", g, "aa", 8, 12,
		"U/2@0-0; U/2@0-0; U/0@0-2; S/0@0-2 0 1 2",
		"U/2@0-0; U/1@0-1; U/1@1-2; S/0@0-2 0 1 2",
		"U/2@0-0; U/0@0-2; U/2@2-2; S/0@0-2 0 1 2",
		"U/1@0-1; U/2@1-1; U/1@1-2; S/0@0-2 0 1 2",
		"U/1@0-1; U/1@1-2; U/2@2-2; S/0@0-2 0 1 2",
		"U/0@0-2; U/2@2-2; U/2@2-2; S/0@0-2 0 1 2")
	countsAre(t, "three Kids", g, "aa", 0, 6)
	g = grammarOf(ruleOf("S", "", altOf(u, u, u)), ruleOf("U", "", altOf(a), altOf(a)))
	want := []string{}
	for i := range 8 {
		want = append(want, fmt.Sprintf("U/%d@0-1; U/%d@1-2; U/%d@2-3; S/0@0-3 0 1 2", i/4, i/2%2, i%2))
	}
	picturesAre(t, "two, three times", g, "aaa", 8, 12, want...)
	for most := range 8 {
		picturesAre(t, "the first of these", g, "aaa", 8, most, want[:most]...)
	}
}

// What goes on at its left, or through itself, has a tree more for each height, as long as it takes nothing more.
func TestCountsOfCircles(t *testing.T) {
	s, a := symCall("S"), symText("a")
	countsAre(t, "at the left", grammarOf(ruleOf("S", "", altOf(s, a), altOf(a))), "aaa", 0, 0, 1)
	countsAre(t, "at the left, as high as may be", grammarOf(ruleOf("S", "", altOf(s, a), altOf(a))), "aaaaaaaa", 0, 0, 0, 0, 0, 0, 0, 1)
	countsAre(t, "at the left, too high", grammarOf(ruleOf("S", "", altOf(s, a), altOf(a))), "aaaaaaaaa", 0)
	countsAre(t, "at the right, as high as may be", grammarOf(ruleOf("S", "", altOf(a, s), altOf(a))), "aaaaaaaa", 0, 0, 0, 0, 0, 0, 0, 1)
	countsAre(t, "at the right, too high", grammarOf(ruleOf("S", "", altOf(a, s), altOf(a))), "aaaaaaaaa", 0)
	itself := grammarOf(ruleOf("S", "", altOf(s), altOf(a)))
	countsAre(t, "itself", itself, "a", 1, 2, 3, 4, 5, 6, 7, 8)
	listIs(t, "itself", itself, "a", "S(S(S(S(S(S(S(S())))))))", "S(S(S(S(S(S(S()))))))", "S(S(S(S(S(S())))))", "S(S(S(S(S()))))", "S(S(S(S())))", "S(S(S()))", "S(S())", "S()")
	last := grammarOf(ruleOf("S", "", altOf(a), altOf(s)))
	countsAre(t, "itself, last", last, "a", 1, 2, 3, 4, 5, 6, 7, 8)
	listIs(t, "itself, last", last, "a", "S()", "S(S())", "S(S(S()))", "S(S(S(S())))", "S(S(S(S(S()))))", "S(S(S(S(S(S())))))", "S(S(S(S(S(S(S()))))))", "S(S(S(S(S(S(S(S())))))))")
	countsAre(t, "itself twice", grammarOf(ruleOf("S", "", altOf(s), altOf(a), altOf(s))), "a", 1, 3, 7, 15, 31, 63, 127, 255)
	countsAre(t, "a circle of two", grammarOf(ruleOf("S", "", altOf(symCall("T")), altOf(a)), ruleOf("T", "", altOf(s))), "a", 1, 1, 2, 2, 3, 3, 4, 4)
	countsAre(t, "a circle alone", grammarOf(ruleOf("S", "", altOf(s))), "", 0)
	hidden := grammarOf(ruleOf("S", "", altOf(symCall("E"), s, symCall("E")), altOf(a)), ruleOf("E", "", altOf()))
	countsAre(t, "behind nothing", hidden, "a", 1, 2, 3, 4, 5, 6, 7, 8)
	// Each is the square of the one below it, and one more.
	nothing := grammarOf(ruleOf("S", "", altOf(), altOf(s, s)))
	for height, want := range []int{0, 1, 2, 5, 26, 677, 458330, 1000000, 1000000, 1000000} {
		countIs(t, "two of nothing", nothing, "", height, want)
	}
	// S(E S(..)) and S(S(..) E) of each height below: all that may be, from the first on.
	beside := grammarOf(ruleOf("S", "", altOf(symCall("E"), s), altOf(s, symCall("E")), altOf(a)), ruleOf("E", "", altOf()))
	countsAre(t, "either side", beside, "a", 1, 3, 7, 15, 31, 63, 127, 255)
}

func TestCountsByParamsAndBinds(t *testing.T) {
	a := symText("a")
	// As many ways as the number tells.
	ways := paramRule("n", altOf(symIf(asked("n")), a), altOf(symIf(exprOf(num(1), named("n"), pair(impl.ExLess, 0, 1))), a), altOf(symIf(same(named("n"), num(3))), a))
	for n, want := range []int{0, 1, 2, 3, 2, 2} {
		if got := impl.CountTrees(ways, "ba", "R", []int{n}, 1, 2, 8); got != want {
			t.Errorf("R of %d: %d, not %d", n, got, want)
		}
		checkCounts(t, ways, "ba", "R", []int{n}, 1)
	}
	any := ruleOf("Any", "", altOf(), altOf(symSet("a-z0-9"), symCall("Any")))
	asks := func(ask impl.Expr) impl.Grammar {
		return grammarOf(ruleOf("S", "", altOf(symBound("n", "Any"), symCall("Any"), symIf(ask), symText("+"))), any)
	}
	// The first Any takes 0, 1, 2 or 3, and the one behind it the rest.
	countsAre(t, "whatever is bound", asks(number(7)), "abc+", 0, 0, 0, 2, 4)
	countsAre(t, "2 alone", asks(same(named("n"), num(2))), "abc+", 0, 0, 0, 1)
	countsAre(t, "below 2", asks(less("n", 2)), "abc+", 0, 0, 0, 1, 2)
	countsAre(t, "below 0", asks(less("n", 0)), "abc+", 0)
	countsAre(t, "a number", asks(same(named("n"), num(12))), "123+", 0, 0, 0, 1)
	listIs(t, "below 2", asks(less("n", 2)), "abc+", "S(Any() Any(Any(Any(Any()))))", "S(Any(Any()) Any(Any(Any())))")
	// The same place is come to with unlike numbers, which go on in unlike ways.
	split := grammarOf(
		ruleOf("S", "", altOf(symBound("n", "Any"), symBound("m", "Any"), symText("+"), symCall("W", asked("n")))),
		ruleOf("W", "n", altOf(a), altOf(symIf(asked("n")), a), altOf(symIf(same(named("n"), num(2))), a)), any)
	countsAre(t, "unlike numbers", split, "ab+a", 0, 0, 2, 6)
	// The place is asked for.
	here := grammarOf(ruleOf("S", "", altOf(symCall("Any"), symIf(same(hereNode(), num(1))), symCall("Any"))), any)
	countsAre(t, "at 1", here, "ab", 0, 0, 1)
	for _, seal := range []impl.Expr{exprOf(num(1), num(0), pair(impl.ExDiv, 0, 1)), beyondAbove(), number(0)} {
		countsAre(t, "an SyIf that does not go on", asks(seal), "a+", 0)
	}
	for _, arg := range []impl.Expr{exprOf(num(0), num(1), pair(impl.ExSub, 0, 1)), exprOf(num(99), num(1), pair(impl.ExAdd, 0, 1)), exprOf(num(1), num(0), pair(impl.ExDiv, 0, 1))} {
		countsAre(t, "an Arg that is none", oneRule(altOf(symCall("N", arg)), altOf()), "", 1)
	}
	// Goals of the same rule with unlike Args are not the same.
	unlike := grammarOf(ruleOf("S", "", altOf(symCall("R", number(1)), symCall("R", number(2)))), ruleOf("R", "n", altOf(), altOf(symIf(same(named("n"), num(2))))))
	countsAre(t, "unlike Args", unlike, "", 0, 2)
	picturesAre(t, "unlike Args", unlike, "", 8, 12, "R1/0@0-0; R2/0@0-0; S/0@0-0 0 1", "R1/0@0-0; R2/1@0-0; S/0@0-0 0 1")
}

// Where the same Kid stands twice, each has a tree of its own.
func TestTheSameKidTwice(t *testing.T) {
	call := symCall("T")
	g := grammarOf(ruleOf("S", "", altOf(call, call)), ruleOf("T", "", altOf(), altOf(symCall("E"))), ruleOf("E", "", altOf()))
	countsAre(t, "twice", g, "", 0, 1, 4)
	listIs(t, "twice", g, "", "S(T() T())", "S(T() T(E()))", "S(T(E()) T())", "S(T(E()) T(E()))")
	picturesAre(t, "the last of these", g, "", 3, 4,
		"T/0@0-0; T/0@0-0; S/0@0-0 0 1", "T/0@0-0; E/0@0-0; T/1@0-0 1; S/0@0-0 0 2", "E/0@0-0; T/1@0-0 0; T/0@0-0; S/0@0-0 1 2",
		"E/0@0-0; T/1@0-0 0; E/0@0-0; T/1@0-0 2; S/0@0-0 1 3")
	g.Rules[0].Alts[0] = altOf(call, call, call)
	countsAre(t, "three times", g, "", 0, 1, 8)
	// Below two others, and in two floors.
	g = grammarOf(ruleOf("S", "", altOf(symCall("U"), call, symCall("U"))), ruleOf("U", "", altOf(call, call)), ruleOf("T", "", altOf(), altOf()))
	countsAre(t, "below two others", g, "", 0, 0, 32)
}

// countedRules has a rule of this name that takes nothing in just so many ways, and behind it those that it calls.
func countedRules(name string, count int) []impl.Rule {
	levels, rests := []impl.Rule{ruleOf(name, "")}, []impl.Rule{}
	for ; count > 8; count /= 7 {
		// Seven times what is below, and the rest, if there is one.
		below := fmt.Sprint(name, len(levels))
		alts := slices.Repeat([]impl.Alt{altOf(symCall(below))}, 7)
		if rest := count % 7; rest > 0 {
			alts = append(alts, altOf(symCall(below+"r")))
			rests = append(rests, ruleOf(below+"r", "", slices.Repeat([]impl.Alt{altOf()}, rest)...))
		}
		levels[len(levels)-1].Alts = alts
		levels = append(levels, ruleOf(below, ""))
	}
	levels[len(levels)-1].Alts = slices.Repeat([]impl.Alt{altOf()}, count)
	return append(levels, rests...)
}

func TestCountsAtTheirGreatest(t *testing.T) {
	for _, count := range []int{1, 7, 8, 9, 12, 13, 56, 100, 5000, 999998, 999999, 1000000, 1000001, 1000002, 2000000, 4000000} {
		g := grammarOf(countedRules("T", count)...)
		countIs(t, "of one node", g, "", 8, min(count, 1000000))
		if got := len(checkList(t, g, "", 8, 12)); got != min(count, 12) {
			t.Errorf("of %d trees %d are listed", count, got)
		}
		// One more node above them, and one more way beside them.
		above := grammarOf(append([]impl.Rule{ruleOf("S", "", altOf(symCall("T")), altOf())}, g.Rules...)...)
		if count < 1000003 {
			countIs(t, "and one", above, "", 8, min(count+1, 1000000))
		}
	}
	for _, pair := range [][2]int{
		{1, 1}, {2, 3}, {1, 999999}, {999999, 1}, {1, 1000000}, {1000000, 1}, {1, 1000001}, {3, 333333}, {333334, 3}, {2, 500000}, {2, 499999}, {2, 500001},
		{1000, 1000}, {999, 1001}, {1001, 999}, {1000, 1001}, {1001, 1000}, {1001, 1001}, {1000, 999}, {1000000, 2}, {1000000, 1000000}, {999999, 999999},
	} {
		first, second := countedRules("T", pair[0]), countedRules("U", pair[1])
		g := grammarOf(slices.Concat([]impl.Rule{ruleOf("S", "", altOf(symCall("T"), symCall("U")))}, first, second)...)
		countIs(t, fmt.Sprint("two Kids, of ", pair), g, "", 8, min(pair[0]*pair[1], 1000000))
		if got := len(checkList(t, g, "", 8, 12)); got != min(pair[0]*pair[1], 12) {
			t.Errorf("of %v trees %d are listed", pair, got)
		}
		// Beside a Kid that has none there is no way, however many the others have.
		g.Rules[0].Alts = []impl.Alt{altOf(symCall("T"), symCall("U"), symCall("O")), altOf(symCall("O"), symCall("T"))}
		g.Rules = append(g.Rules, ruleOf("O", "", altOf(symCall("O"))))
		countIs(t, "beside none", g, "", 8, 0)
	}
	for _, counts := range [][3]int{{100, 100, 100}, {100, 100, 99}, {100, 101, 99}, {9, 111111, 1}, {7, 11, 13 * 999}} {
		g := grammarOf(ruleOf("S", "", altOf(symCall("T"), symCall("U"), symCall("V"))))
		for i, name := range []string{"T", "U", "V"} {
			g.Rules = append(g.Rules, countedRules(name, counts[i])...)
		}
		countIs(t, fmt.Sprint("three Kids, of ", counts), g, "", 8, min(counts[0]*counts[1]*counts[2], 1000000))
	}
	// The sum of two Alts that are below it each, and of more.
	for count, want := range []int{0, 400000, 800000, 1000000, 1000000} {
		g := grammarOf(append([]impl.Rule{ruleOf("S", "", altOf(symText("b")))}, countedRules("T", 400000)...)...)
		for range count {
			g.Rules[0].Alts = append(g.Rules[0].Alts, altOf(symCall("T")))
		}
		countIs(t, fmt.Sprint("400000 each, ", count, " times"), g, "", 8, want)
	}
}

func TestHeightsOfCountsAtTheirEdges(t *testing.T) {
	itself := grammarOf(ruleOf("S", "", altOf(symCall("S")), altOf(symText("a"))))
	for _, height := range []int{leastInt, -100, -8, -2, -1, 0} {
		countIs(t, "no height", itself, "a", height, 0)
		picturesAre(t, "no height", itself, "a", height, 12)
		countIs(t, "no height", bothSides(), "aaa", height, 0)
		picturesAre(t, "no height", bothSides(), "aaa", height, 12)
	}
	for _, height := range []int{1, 2, 6, 7, 8, 9, 10, 12, 13, 100, greatestInt} {
		countIs(t, "so high", itself, "a", height, min(height, 8))
		if got := len(checkList(t, itself, "a", height, 12)); got != min(height, 8) {
			t.Errorf("at most %d high: %d are listed", height, got)
		}
	}
	picturesAre(t, "one high", itself, "a", 1, 12, "S/1@0-1")
	picturesAre(t, "two high", itself, "a", 2, 12, "S/1@0-1; S/0@0-1 0", "S/1@0-1")
	// One row, each node with one below it: of just this height there is a tree, and below it none.
	for depth := range 12 {
		g := deepGrammar(depth)
		for height := range 12 {
			want := oneOf(depth+2 <= min(height, 8))
			countIs(t, "a row", g, "", height, want)
			if got := len(checkList(t, g, "", height, 12)); got != want {
				t.Errorf("a row of %d, at most %d high: %d are listed", depth+2, height, got)
			}
			if got, want := impl.CountTrees(g, "", "R", []int{depth}, 0, 0, height), oneOf(depth+1 <= min(height, 8)); got != want {
				t.Errorf("R of %d, at most %d high: %d", depth, height, got)
			}
		}
	}
}

func TestSoManyTreesAtTheirEdges(t *testing.T) {
	for _, most := range []int{leastInt, -12, -1, 0} {
		picturesAre(t, "none asked for", bothSides(), "aaa", 8, most)
	}
	for _, count := range []int{1, 11, 12, 13, 14, 200} {
		g := grammarOf(countedRules("T", count)...)
		for _, most := range []int{1, 2, 10, 11, 12, 13, 14, 100, greatestInt} {
			if got := len(checkList(t, g, "", 8, most)); got != min(count, most, 12) {
				t.Errorf("of %d, at most %d: %d are listed", count, most, got)
			}
		}
	}
	all := pictures(bothSides(), checkList(t, bothSides(), "aaaaaa", 8, 12))
	for _, most := range []int{13, 42, greatestInt} {
		if got := pictures(bothSides(), checkList(t, bothSides(), "aaaaaa", 8, most)); got != all {
			t.Errorf("at most %d:\n%s\nnot\n%s", most, got, all)
		}
	}
}

// sized is an Alt that takes what is told, with Kids that take nothing; the tree has so many nodes in all (65 at most).
func sized(count int, syms ...impl.Sym) impl.Alt {
	for ; count-1 >= 8; count -= 8 {
		syms = append(syms, symCall("W8"))
	}
	if count > 1 {
		syms = append(syms, symCall(fmt.Sprint("W", count-1)))
	}
	return altOf(syms...)
}

// withSizes has beside these the rules that are called by sized: W1 to W8, whose trees have so many nodes.
func withSizes(rules ...impl.Rule) impl.Grammar {
	for count := 1; count <= 8; count++ {
		rules = append(rules, ruleOf(fmt.Sprint("W", count), "", altOf(slices.Repeat([]impl.Sym{symCall("W1")}, count-1)...)))
	}
	return grammarOf(rules...)
}

// sizesAre wants so many trees counted, and trees of just these nodes listed.
func sizesAre(t *testing.T, what string, g impl.Grammar, text string, most int, count int, want ...int) {
	t.Helper()
	countIs(t, what, g, text, 8, count)
	got := []int{}
	for _, tree := range checkList(t, g, text, 8, most) {
		got = append(got, len(tree.Nodes))
	}
	if !slices.Equal(got, want) {
		t.Errorf("%s, at most %d: trees of %v nodes, not %v", what, most, got, want)
	}
}

func TestTreesOfAsManyNodesAreListedAndMoreAreCounted(t *testing.T) {
	for count := 1; count <= 65; count++ {
		listed := []int{count}[:oneOf(count <= 60)]
		sizesAre(t, "one tree", withSizes(ruleOf("S", "", sized(count))), "", 12, 1, listed...)
		// As a Kid, and as a Kid's Kid.
		above := []int{count + 1}[:oneOf(count < 60)]
		sizesAre(t, "a Kid", withSizes(ruleOf("S", "", altOf(symCall("T"))), ruleOf("T", "", sized(count))), "", 12, 1, above...)
		above = []int{count + 2}[:oneOf(count < 59)]
		sizesAre(t, "a Kid's Kid", withSizes(ruleOf("S", "", altOf(symCall("T"))), ruleOf("T", "", altOf(symCall("U"))), ruleOf("U", "", sized(count))), "", 12, 1, above...)
		// One that is too great is passed over, and the next one listed.
		g := withSizes(ruleOf("S", "", sized(count), altOf(), sized(count), sized(2)))
		want := []int{count, 1, count, 2}
		if count > 60 {
			want = []int{1, 2}
		}
		sizesAre(t, "beside others", g, "", 12, 4, want...)
		sizesAre(t, "beside others", g, "", 2, 4, want[:2]...)
	}
	for more := 1; more < 8; more++ {
		sizesAre(t, "wide", wideGrammar(more), "", 12, 1, []int{57 + more}[:oneOf(more <= 3)]...)
	}
	// Two and three Kids, of 58, 59, 60 and 61 nodes together.
	for first := 1; first <= 61; first++ {
		for together := 58; together <= 61; together++ {
			second := together - first
			if second < 1 {
				continue
			}
			g := withSizes(ruleOf("S", "", altOf(symCall("A"), symCall("B"))), ruleOf("A", "", sized(first)), ruleOf("B", "", sized(second)))
			sizesAre(t, fmt.Sprint(first, " and ", second), g, "", 12, 1, []int{together + 1}[:oneOf(together < 60)]...)
			if second < 2 {
				continue
			}
			g.Rules[0].Alts[0].Syms = []impl.Sym{symCall("A"), symCall("C"), symCall("B")}
			g.Rules[1].Alts[0] = sized(first)
			g.Rules[2].Alts[0] = sized(second - 1)
			g.Rules = append(g.Rules, ruleOf("C", "", altOf()))
			sizesAre(t, fmt.Sprint(first, ", 1 and ", second-1), g, "", 12, 1, []int{together + 1}[:oneOf(together < 60)]...)
		}
	}
}

// The first ones alone are looked at, also when they are too great in their place and others would not be.
func TestTheFirstOfKidsAndRowsAlone(t *testing.T) {
	kid := withSizes(ruleOf("S", "", altOf(symCall("T"))), ruleOf("T", "", sized(60), sized(3)))
	sizesAre(t, "a Kid of 60 first", kid, "", 1, 2)
	sizesAre(t, "a Kid of 60 first", kid, "", 2, 2, 4)
	// One of 61 is no tree that may be listed, and takes no place.
	kid.Rules[1].Alts[0] = sized(61)
	sizesAre(t, "a Kid of 61 first", kid, "", 1, 2, 4)
	kid.Rules[1].Alts = append(slices.Repeat([]impl.Alt{sized(60)}, 5), sized(9), sized(60), sized(10))
	for most := 1; most <= 12; most++ {
		want := []int{10, 11}
		if most < 8 {
			want = want[:oneOf(most > 5)]
		}
		sizesAre(t, "Kids of 60 first", kid, "", most, 8, want...)
	}
	// Twelve, that take all places, and one behind them.
	places := withSizes(ruleOf("S", "", altOf(symCall("T"))), ruleOf("T", "", altOf(symCall("U")), sized(5)), ruleOf("U", "", altOf(symCall("V")), altOf(symCall("V"))),
		ruleOf("V", "", slices.Repeat([]impl.Alt{sized(58)}, 6)...))
	sizesAre(t, "twelve of 60 first", places, "", 12, 13)
	places.Rules[3].Alts = places.Rules[3].Alts[:5]
	sizesAre(t, "ten of 60 first", places, "", 12, 11, 6)
	sizesAre(t, "ten of 60 first", places, "", 11, 11, 6)
	sizesAre(t, "ten of 60 first", places, "", 10, 11)
	// Of the rows behind A the first one is too great beside A.
	rows := withSizes(ruleOf("S", "", altOf(symCall("A"), symCall("B"))), ruleOf("A", "", sized(30)), ruleOf("B", "", sized(40), sized(5)))
	sizesAre(t, "the first row behind", rows, "", 1, 2)
	sizesAre(t, "the first row behind", rows, "", 2, 2, 36)
	// Of A, too, the first one alone.
	rows.Rules[1].Alts = []impl.Alt{sized(30), sized(4)}
	sizesAre(t, "the first of A", rows, "", 1, 4)
	sizesAre(t, "the first two", rows, "", 2, 4, 36, 45)
	sizesAre(t, "the first three", rows, "", 3, 4, 36, 45, 10)
	// B and C together are too great to the least end of B: that row takes no place.
	ends := withSizes(
		ruleOf("S", "", altOf(symCall("A"), symCall("B"), symCall("C"))), ruleOf("A", "", sized(20)),
		ruleOf("B", "", sized(40), sized(5, symText("a"))), ruleOf("C", "", sized(30), sized(20, symText("a"))))
	sizesAre(t, "rows of 60", ends, "a", 1, 2, 56)
	// With 59 they take the one place there is, and are too great beside A.
	ends.Rules[3].Alts[1] = sized(19, symText("a"))
	sizesAre(t, "rows of 59", ends, "a", 1, 2)
	sizesAre(t, "rows of 59", ends, "a", 2, 2, 56)
	// To another end there are places anew.
	anew := withSizes(ruleOf("S", "", altOf(symCall("T"), symCall("U"))), ruleOf("T", "", sized(60), sized(7, symText("a"))), ruleOf("U", "", altOf(), altOf(symText("a"))))
	sizesAre(t, "another end", anew, "a", 1, 2, 9)
	// And of another Alt.
	anew = withSizes(ruleOf("S", "", altOf(symCall("T")), altOf(symCall("U"))), ruleOf("T", "", sized(60)), ruleOf("U", "", sized(7)))
	sizesAre(t, "another Alt", anew, "", 1, 2, 8)
	// Of less height there are other first ones.
	high := withSizes(ruleOf("S", "", altOf(symCall("T"))), ruleOf("T", "", sized(60), altOf()))
	sizesAre(t, "high", high, "", 1, 2)
	picturesAre(t, "not so high", high, "", 3, 1, "T/1@0-0; S/0@0-0 0")
}

func TestCountsOfTextsAtTheirEdges(t *testing.T) {
	any := ruleOf("Any", "", altOf(), altOf(symText("a")), altOf(symText("aaa")), altOf(symText("aaaaaaaa"), symText("aaaa")))
	g := grammarOf(ruleOf("S", "", altOf(symCall("Any"), symCall("Any")), altOf(symText("aaaaaaaa"), symCall("Any"), symText("a"))), any)
	for length := range 16 {
		text := strings.Repeat("a", length)
		for from := -2; from <= length+2; from++ {
			if from < 2 || from > length-2 {
				checkCounts(t, g, text, "S", nil, from)
				checkCounts(t, g, text, "Any", nil, from)
			}
		}
		list := checkList(t, g, text, 8, 12)
		if want := impl.CountTrees(g, text, "S", nil, 0, length, 8); len(list) != want || length > 12 && want != 0 {
			t.Errorf("%d bytes: %d trees, and %d are listed", length, want, len(list))
		}
	}
	countIs(t, "12 bytes", g, strings.Repeat("a", 12), 8, 3)
	countIs(t, "13 bytes", g, strings.Repeat("a", 13), 8, 0)
	// To each place of 12 bytes, of which the first is not taken.
	right := grammarOf(ruleOf("S", "", altOf(), altOf(symSet("a-z"), symCall("S"))))
	text := "1abcdefghijk"
	for to := -3; to <= 15; to++ {
		for from := -3; from <= 15; from++ {
			reads := from >= 0 && from <= 12 && to >= from && to <= 12 && (from > 0 || to == 0)
			for height := range 10 {
				got := impl.CountTrees(right, text, "S", nil, from, to, height)
				if want := oneOf(reads && to-from+1 <= min(height, 8)); got != want {
					t.Errorf("from %d to %d, at most %d high: %d, not %d", from, to, height, got, want)
				}
			}
		}
	}
	for _, place := range []int{leastInt, -1, 3, 12, 13, greatestInt} {
		for _, height := range []int{1, 8, greatestInt} {
			if got := impl.CountTrees(right, "xx", "S", nil, place, 2, height); got != 0 {
				t.Errorf("from %d: %d", place, got)
			}
			if got := impl.CountTrees(right, "xx", "S", nil, 0, place, height); got != 0 {
				t.Errorf("to %d: %d", place, got)
			}
			if got := impl.CountTrees(right, "xx", "S", nil, place, place, height); got != 0 {
				t.Errorf("from and to %d: %d", place, got)
			}
		}
	}
	// All bytes there are, which no set has.
	for b := range 256 {
		text := string([]byte{byte(b)})
		want := oneOf(b >= 'a' && b <= 'z')
		if got := impl.CountTrees(right, text, "S", nil, 0, 1, 8); got != want || len(checkList(t, right, text, 8, 12)) != want {
			t.Errorf("the byte %d: %d", b, got)
		}
	}
}

func countNone(t *testing.T, what string, g impl.Grammar, text, name string, args []int, from, to int) {
	t.Helper()
	for _, height := range []int{leastInt, 0, 1, 8, 9, greatestInt} {
		if got := impl.CountTrees(g, text, name, args, from, to, height); got != 0 {
			t.Errorf("%s: CountTrees(%v, %q, %q, %v, %d, %d, %d) = %d", what, g, text, name, args, from, to, height, got)
		}
	}
}

func listNone(t *testing.T, what string, g impl.Grammar, text string) {
	t.Helper()
	for _, height := range []int{leastInt, 0, 1, 8, 9, greatestInt} {
		for _, most := range []int{leastInt, 0, 1, 12, 13, greatestInt} {
			if got := impl.ListTrees(g, text, height, most); len(got) != 0 {
				t.Errorf("%s: ListTrees(%v, %q, %d, %d) = %v", what, g, text, height, most, got)
			}
		}
	}
}

func TestWhatDoesNotRunHasNoWays(t *testing.T) {
	for what, g := range wrongGrammars() {
		for _, text := range []string{"", "a", "b"} {
			for _, args := range [][]int{nil, {0}} {
				countNone(t, what, g, text, "S", args, 0, 0)
				countNone(t, what, g, text, "S", args, 0, len(text))
			}
			listNone(t, what, g, text)
		}
	}
	countNone(t, "31 rules", manyRules(31), "a", "R0", nil, 0, 1)
	listNone(t, "31 rules", manyRules(31), "a")
	countIs(t, "30 rules", manyRules(30), "a", 8, 8)
	g := lengthGrammar()
	for _, name := range []string{"", "s", "T", "Ro", "Rows", "D ", "\x00"} {
		countNone(t, "no rule", g, "1a", name, nil, 0, 1)
	}
	params := paramRule("a b", altOf(symText("a")), altOf())
	for count := range 9 {
		got := impl.CountTrees(params, "a", "R", slices.Repeat([]int{1}, count), 0, 1, 8)
		if want := oneOf(count == 2); got != want {
			t.Errorf("R with %d Args: %d", count, got)
		}
		if got, want := impl.CountTrees(g, "1a", "D", slices.Repeat([]int{1}, count), 0, 1, 8), oneOf(count == 0); got != want {
			t.Errorf("D with %d Args: %d", count, got)
		}
	}
	for _, num := range []int{leastInt, -100, -1, 0, 1, 98, 99, 100, 101, greatestInt} {
		for _, args := range [][]int{{num, 5}, {5, num}, {num, num}} {
			if got, want := impl.CountTrees(params, "a", "R", args, 0, 1, 8), oneOf(num >= 0 && num <= 99); got != want {
				t.Errorf("R of %v: %d", args, got)
			}
		}
	}
	// As many goals as there may be, and one more, none of which the way goes through.
	most := countGrammar(altOf(symCall("C", number(0), number(1))))
	countIs(t, "300 goals", most, "y", 8, 1)
	picturesAre(t, "300 goals", most, "y", 8, 12, "S/1@0-1")
	more := countGrammar(altOf(symCall("C", number(0), number(0))))
	countNone(t, "301 goals", more, "y", "S", nil, 0, 1)
	listNone(t, "301 goals", more, "y")
	if got := impl.CountTrees(more, "z", "C", []int{2, 95}, 0, 1, 8); got != 1 {
		t.Errorf("C of 2 and 95: %d", got)
	}
	// What is read, but not high enough, and what is not read to there.
	countNone(t, "too high", most, "z", "S", nil, 0, 1)
	listNone(t, "too high", most, "z")
	countNone(t, "no end", bothSides(), "aab", "S", nil, 0, 3)
	listNone(t, "no end", bothSides(), "aab")
	countNone(t, "no end", bothSides(), "aab", "S", nil, 0, 0)
	countNone(t, "an end ahead of it", bothSides(), "aab", "S", nil, 1, 0)
}

// growByHeight has, floor by floor, every tree that TreeOk takes, of each goal with Args of 0 to 2: false when there are too many.
func growByHeight(g impl.Grammar, text string, height int) ([]impl.Tree, bool) {
	trees, have := []impl.Tree{}, map[string]bool{}
	try := func(node impl.TreeNode, row []int) {
		kids := []impl.Tree{}
		for _, place := range row {
			kids = append(kids, trees[place])
		}
		tree := joined(node, kids)
		if picture := treePicture(g, tree); !have[picture] && impl.TreeOk(g, text, tree) {
			have[picture] = true
			trees = append(trees, tree)
		}
	}
	for range height {
		wholes := []impl.TreeNode{}
		for _, tree := range trees {
			wholes = append(wholes, tree.Nodes[len(tree.Nodes)-1])
		}
		for i, rule := range g.Rules {
			for j, alt := range rule.Alts {
				for from := range len(text) + 1 {
					rows := kidsFitting(g, wholes, alt.Syms, from)
					if len(trees) > 60 || len(rows) > 500 {
						return nil, false
					}
					for _, args := range smallArgs(len(rule.Params)) {
						for _, row := range rows {
							for to := from; to <= len(text); to++ {
								try(treeNode(i, j, args, from, to), row)
							}
						}
					}
				}
			}
		}
	}
	return trees, true
}

// lowGrammars have few trees that are low, so that they may be put together: some by hand, and so many seeds.
func lowGrammars(seeds int) map[string]impl.Grammar {
	s, a, b := symCall("S"), symText("a"), symText("b")
	down := exprOf(named("n"), num(1), pair(impl.ExSub, 0, 1))
	grammars := map[string]impl.Grammar{
		"within":     grammarOf(ruleOf("S", "", altOf(a, s, b), altOf())),
		"left":       grammarOf(ruleOf("S", "", altOf(s, a), altOf(b), altOf(symSet("ab")))),
		"both sides": grammarOf(ruleOf("S", "", altOf(s, s), altOf(a), altOf(b))),
		"itself":     grammarOf(ruleOf("S", "", altOf(s), altOf(symCall("T")), altOf(a)), ruleOf("T", "", altOf(s, b), altOf(symSet("ab")))),
		"numbers":    grammarOf(ruleOf("S", "", altOf(symCall("R", number(2)), symCall("R", number(0)))), ruleOf("R", "n", altOf(symIf(asked("n")), symSet("ab"), symCall("R", down)), altOf(symIf(exprOf(named("n"), not(0)))))),
		"bound":      grammarOf(ruleOf("S", "", altOf(symBound("n", "T"), symCall("T"), symCall("R", asked("n")))), ruleOf("T", "", altOf(), altOf(a)), ruleOf("R", "n", altOf(symIf(same(named("n"), num(1))), b), altOf(b))),
	}
	for seed := range seeds {
		grammars[fmt.Sprint("seed ", seed)] = smallGrammar(seeded(seed))
	}
	return grammars
}

// By TreeOk alone: as many trees as it takes are counted, and just these are listed.
func TestTreesArePutTogetherByHand(t *testing.T) {
	t.Parallel()
	compared, several := 0, 0
	for what, g := range lowGrammars(80) {
		for _, text := range []string{"", "a", "ab", "aab"} {
			for height := 1; height <= 3; height++ {
				trees, ok := growByHeight(g, text, height)
				if !ok {
					break
				}
				goals, whole := map[string]int{}, map[string]bool{}
				for _, tree := range trees {
					node := tree.Nodes[len(tree.Nodes)-1]
					goals[fmt.Sprint(node.Rule, node.Args, node.From, node.To)]++
					if node.Rule == 0 && node.From == 0 && node.To == len(text) {
						whole[treePicture(g, tree)] = true
					}
				}
				for _, tree := range trees {
					node := tree.Nodes[len(tree.Nodes)-1]
					want := goals[fmt.Sprint(node.Rule, node.Args, node.From, node.To)]
					if !runsSmall(g, text, g.Rules[node.Rule].Name, node.Args, node.From) {
						continue
					}
					if got := impl.CountTrees(g, text, g.Rules[node.Rule].Name, node.Args, node.From, node.To, height); got != want {
						t.Fatalf("%s, %q, at most %d high: %d are counted, and %d put together\n%s", what, text, height, got, want, treePicture(g, tree))
					}
					compared++
					several += oneOf(want > 1)
				}
				if !runsSmall(g, text, g.Rules[0].Name, nil, 0) {
					continue
				}
				list := checkList(t, g, text, height, 12)
				for _, tree := range list {
					if !whole[treePicture(g, tree)] {
						t.Fatalf("%s, %q: listed, and not put together: %s", what, text, treePicture(g, tree))
					}
				}
				if len(list) != min(12, len(whole)) {
					t.Fatalf("%s, %q, at most %d high: %d listed of %d", what, text, height, len(list), len(whole))
				}
			}
		}
	}
	if compared < 3000 || several < 1000 {
		t.Errorf("only %d were compared, %d of them with several trees", compared, several)
	}
}

// runsSmall tells whether the goal runs, and no number beyond 2 is handed on there: of such no tree is put together.
func runsSmall(g impl.Grammar, text, name string, args []int, from int) bool {
	c, ok := impl.RunGoal(g, text, name, args, from)
	return ok && !slices.ContainsFunc(c.Goals, func(goal impl.Goal) bool {
		return slices.ContainsFunc(goal.Args, func(num int) bool { return num > 2 })
	})
}

func TestWaysOfManySeeds(t *testing.T) {
	t.Parallel()
	const seeds = 400
	several, many, greatest, listed, cut := 0, 0, 0, 0, 0
	for seed := range seeds {
		next := seeded(seed)
		g := smallGrammar(next)
		text := ""
		for range next(5) {
			text += string("ab1"[next(3)])
		}
		rule := g.Rules[next(len(g.Rules))]
		args := []int{}
		for range rule.Params {
			args = append(args, next(4))
		}
		count := checkCounts(t, g, text, rule.Name, args, next(len(text)+1))
		several += oneOf(count > 1)
		many += oneOf(count > 100)
		greatest += oneOf(count == 1000000)
		for _, height := range []int{1 + next(9), 8} {
			for _, most := range []int{1, 2, 1 + next(14), 12} {
				list := checkList(t, g, text, height, most)
				listed += oneOf(len(list) > 1)
				cut += oneOf(len(list) < min(most, 12, impl.CountTrees(g, text, "R0", nil, 0, len(text), height)))
			}
		}
	}
	if several < seeds/5 || many < seeds/20 || greatest < seeds/50 || listed < seeds/2 || cut < seeds/20 {
		t.Errorf("of %d: several of %d, many of %d, too many of %d; %d lists, %d of them cut", seeds, several, many, greatest, listed, cut)
	}
}

// What has a tree that is not too high has a way, the first tree among them.
func TestFirstTreesAreCounted(t *testing.T) {
	t.Parallel()
	found := 0
	for seed := range 300 {
		g := smallGrammar(seeded(seed))
		for _, text := range []string{"", "a", "1b", "ab1"} {
			for _, to := range impl.EndsOf(g, text, "R0", nil, 0) {
				tree, ok := impl.FirstTree(g, text, "R0", nil, 0, to)
				if height := impl.HeightOf(tree); ok && height <= 8 {
					found++
					// Where there are more than can be told, one more is not seen.
					if lower := impl.CountTrees(g, text, "R0", nil, 0, to, height-1); impl.CountTrees(g, text, "R0", nil, 0, to, height) < min(lower+1, 1000000) {
						t.Fatalf("%v, %q: %s is not counted", g, text, treePicture(g, tree))
					}
				}
			}
		}
	}
	if found < 100 {
		t.Errorf("only %d trees", found)
	}
}

// A rule with as many calls as there may be, over as long a text: ways that come together are not gone one by one.
func TestManyWaysAreCounted(t *testing.T) {
	t.Parallel()
	eight := altOf(slices.Repeat([]impl.Sym{symCall("R", plus("n", 1))}, 8)...)
	text := strings.Repeat("a", 12)
	counted := func(g impl.Grammar, length, want int) {
		t.Helper()
		if got := impl.CountTrees(g, text[:length], "S", nil, 0, length, 8); got != want {
			t.Errorf("%d bytes: %d, not %d", length, got, want)
		}
		for _, most := range []int{1, 12} {
			checkListed(t, g, text[:length], 8, most, impl.ListTrees(g, text[:length], 8, most))
		}
	}
	for floors := range 9 {
		g := grammarOf(
			ruleOf("S", "", altOf(symCall("R", number(99-floors)))),
			ruleOf("R", "n", eight, eight, eight, eight, eight, eight, altOf(symText("a")), altOf()))
		// One floor of calls takes 8 bytes at most, one each; two floors have more ways than can be told.
		switch floors {
		case 0:
			counted(g, 1, 1)
			counted(g, 8, 0)
		case 1:
			counted(g, 8, 6)
			counted(g, 7, 6*8)
			counted(g, 9, 0)
		default:
			counted(g, 8, 1000000)
			counted(g, 12, 1000000)
		}
	}
	whole := grammarOf(ruleOf("S", "", slices.Repeat([]impl.Alt{altOf(slices.Repeat([]impl.Sym{symCall("T")}, 8)...)}, 8)...), ruleOf("T", "", altOf(), altOf(symText("a"), symCall("T"))))
	// 12 bytes among 8 Kids go in 50388 ways; in 8 * 792 of them one Kid takes more than 6, and is too high.
	counted(whole, 12, 8*(50388-8*792))
	countsAre(t, "one byte", whole, "a", 0, 0, 64)
	picturesAre(t, "eight bytes, one each", whole, text[:8], 3, 1,
		"T/0@1-1; T/1@0-1 0; T/0@2-2; T/1@1-2 2; T/0@3-3; T/1@2-3 4; T/0@4-4; T/1@3-4 6; T/0@5-5; T/1@4-5 8; T/0@6-6; T/1@5-6 10; T/0@7-7; T/1@6-7 12; T/0@8-8; T/1@7-8 14; S/0@0-8 1 3 5 7 9 11 13 15")
}

func TestWaysShareNoMemory(t *testing.T) {
	t.Parallel()
	grammars := rightGrammars()
	grammars["both sides"], grammars["twice"] = bothSides(), wideGrammar(3)
	for seed := range 150 {
		grammars[fmt.Sprint("seed ", seed)] = smallGrammar(seeded(seed))
	}
	trees := 0
	for what, plain := range grammars {
		for _, text := range []string{"", "aa", "1ab1", "1+2"} {
			g := roomyGrammar(plain)
			text = strings.Clone(text)
			before := grammarPicture(g) + text
			list := impl.ListTrees(g, text, 8, 12)
			lists := [][]int{}
			for _, tree := range list {
				for _, node := range tree.Nodes {
					lists = append(lists, node.Args, node.Kids)
				}
			}
			answers := len(lists)
			for _, sym := range allSyms(g) {
				for _, arg := range sym.Args {
					for _, node := range arg.Nodes {
						lists = append(lists, node.Kids)
					}
				}
			}
			for i, list := range lists[:answers] {
				for _, other := range lists[i+1:] {
					if sharesInts(list, other) {
						t.Fatalf("%s: %v shares memory with %v", what, list, other)
					}
				}
			}
			// To write over one tree, and the room behind its nodes, leaves all others as they are.
			for i := range list {
				rest := pictures(g, slices.Delete(slices.Clone(list), i, i+1))
				nodes := list[i].Nodes[:cap(list[i].Nodes)]
				kept := slices.Clone(nodes)
				for j := range nodes {
					nodes[j] = treeNode(0, 77, []int{77}, 77, 77, 77)
				}
				if now := pictures(g, slices.Delete(slices.Clone(list), i, i+1)); now != rest {
					t.Fatalf("%s: another tree is written over:\n%s\nwas\n%s", what, now, rest)
				}
				copy(nodes, kept)
			}
			for _, rule := range g.Rules {
				args := roomyList(slices.Repeat([]int{2}, len(rule.Params)), 77)
				was := fmt.Sprint(args[:cap(args)])
				for to := range len(text) + 1 {
					impl.CountTrees(g, text, rule.Name, args, 0, to, 8)
				}
				if now := fmt.Sprint(args[:cap(args)]); now != was {
					t.Fatalf("%s: args are %s, and were %s", what, now, was)
				}
			}
			if after := grammarPicture(g) + text; after != before {
				t.Fatalf("%s: an argument is changed:\n%s\nwas\n%s", what, after, before)
			}
			trees += len(list)
		}
	}
	if trees < 300 {
		t.Errorf("only %d trees", trees)
	}
}

func TestWaysAnswerTheSameAgain(t *testing.T) {
	g := bothSides()
	first := pictures(g, checkList(t, g, "aaaaaa", 8, 12))
	for range 50 {
		list := impl.ListTrees(g, "aaaaaa", 8, 12)
		if got := pictures(g, list); got != first {
			t.Fatalf("ListTrees answers\n%s\nand then\n%s", first, got)
		}
		if got := impl.CountTrees(g, "aaaaaa", "S", nil, 0, 6, 8); got != 42 {
			t.Fatalf("CountTrees answers %d", got)
		}
		// What is refused leaves nothing behind, nor do other counts, and what was answered may be written over.
		impl.ListTrees(countGrammar(altOf(symCall("C", number(0), number(0)))), "y", 8, 12)
		impl.CountTrees(g, "aaaaaa", "S", nil, 0, 6, 3)
		impl.ListTrees(g, "aaaaaa", 4, 1)
		for _, tree := range list {
			for i := range tree.Nodes {
				for j := range tree.Nodes[i].Kids {
					tree.Nodes[i].Kids[j] = -1
				}
				tree.Nodes[i].Alt = 77
			}
		}
	}
}
