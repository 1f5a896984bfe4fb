package tests

import (
	"fmt"
	"math/big"
	"slices"
	"strings"
	"testing"

	"loop.example/g00243/impl"
)

// slowForest goes by a slow run and by all rows of Kids, and tells two parts apart by what is printed of them.
func slowForest(g impl.Grammar, text string) (impl.Forest, bool) {
	if len(g.Rules) == 0 {
		return impl.Forest{}, false
	}
	c, ok := slowRun(g, text, g.Rules[0].Name, nil, 0)
	if !ok || !slices.Contains(c.Goals[0].Ends, len(text)) {
		return impl.Forest{}, false
	}
	f, heads, tooMany := impl.Forest{}, []string{}, false
	place := func(goal impl.Goal, to int) int {
		head := fmt.Sprint(goal.Rule, goal.Args, goal.From, to)
		if !slices.Contains(heads, head) {
			heads = append(heads, head)
			f.Parts = append(f.Parts, impl.Part{Rule: goal.Rule, Args: goal.Args, From: goal.From, To: to})
		}
		return slices.Index(heads, head)
	}
	place(c.Goals[0], len(text))
	for at := 0; at < len(f.Parts) && !tooMany; at++ {
		whole := f.Parts[at]
		rule := g.Rules[whole.Rule]
		ways := []impl.Way{}
		for i, alt := range rule.Alts {
			for _, row := range slowWays(g, text, c, alt.Syms, slowKnown(rule, whole.Args), whole.From, whole.To) {
				way := impl.Way{Alt: i}
				for _, kid := range row {
					way.Kids = append(way.Kids, place(c.Goals[kid.goal], kid.to))
				}
				ways = append(ways, way)
			}
		}
		f.Parts[at].Ways = ways
		tooMany = len(f.Parts) > 200 || len(ways) > 60
	}
	if tooMany {
		return impl.Forest{}, false
	}
	return f, true
}

// slowCountForest counts from the first part down, and cuts only what is answered.
func slowCountForest(f impl.Forest, height int) int {
	for _, whole := range f.Parts {
		for _, way := range whole.Ways {
			for _, kid := range way.Kids {
				if kid < 0 || kid >= len(f.Parts) {
					return 0
				}
			}
		}
	}
	known := map[[2]int]*big.Int{}
	var count func(at, height int) *big.Int
	count = func(at, height int) *big.Int {
		key := [2]int{at, height}
		if height < 1 {
			return new(big.Int)
		}
		if known[key] == nil {
			sum := new(big.Int)
			for _, way := range f.Parts[at].Ways {
				rows := big.NewInt(1)
				for _, kid := range way.Kids {
					rows.Mul(rows, count(kid, height-1))
				}
				sum.Add(sum, rows)
			}
			known[key] = sum
		}
		return known[key]
	}
	if len(f.Parts) == 0 {
		return 0
	}
	all := count(0, min(height, 8))
	if all.Cmp(big.NewInt(1000000)) > 0 {
		return 1000000
	}
	return int(all.Int64())
}

// slowComeTo has all parts that are come to from this one, itself only if it is come to again.
func slowComeTo(f impl.Forest, from int) map[int]bool {
	there := map[int]bool{}
	todo := []int{from}
	for len(todo) > 0 {
		for _, way := range f.Parts[todo[0]].Ways {
			for _, kid := range way.Kids {
				if kid >= 0 && kid < len(f.Parts) && !there[kid] {
					there[kid] = true
					todo = append(todo, kid)
				}
			}
		}
		todo = todo[1:]
	}
	return there
}

func slowCircles(f impl.Forest) bool {
	for at := range f.Parts {
		if slowComeTo(f, at)[at] {
			return true
		}
	}
	return false
}

func slowAmbiguous(f impl.Forest) bool {
	if len(f.Parts) == 0 {
		return false
	}
	there := slowComeTo(f, 0)
	for at, whole := range f.Parts {
		if (at == 0 || there[at]) && len(whole.Ways) > 1 {
			return true
		}
	}
	return false
}

// forestPicture is, of each part, the rule's Name, its Args, from where to where, and each Way behind a stroke: its Alt, and its Kids.
func forestPicture(g impl.Grammar, f impl.Forest) string {
	told := []string{}
	for _, whole := range f.Parts {
		args := strings.ReplaceAll(strings.Trim(fmt.Sprint(whole.Args), "[]"), " ", ",")
		line := fmt.Sprintf("%s%s@%d-%d", g.Rules[whole.Rule].Name, args, whole.From, whole.To)
		for _, way := range whole.Ways {
			line += fmt.Sprint(" /", way.Alt)
			for _, kid := range way.Kids {
				line += fmt.Sprint(" ", kid)
			}
		}
		told = append(told, line)
	}
	return strings.Join(told, "; ")
}

// planted is a forest that is told by its Kids: parts between semicolons, Ways between strokes, "-" a Way without Kids, "." a part without Ways.
func planted(told string) impl.Forest {
	f := impl.Forest{}
	if told == "" {
		return f
	}
	for _, line := range strings.Split(told, ";") {
		whole := impl.Part{}
		for i, row := range strings.Split(line, "|") {
			if strings.TrimSpace(row) == "." {
				continue
			}
			way := impl.Way{Alt: i}
			for _, kid := range strings.Fields(row) {
				if kid != "-" {
					place := 0
					fmt.Sscan(kid, &place)
					way.Kids = append(way.Kids, place)
				}
			}
			whole.Ways = append(whole.Ways, way)
		}
		f.Parts = append(f.Parts, whole)
	}
	return f
}

// rooted is the forest with this part as its first one, and that in its place.
func rooted(f impl.Forest, at int) impl.Forest {
	turn := func(place int) int {
		switch place {
		case 0:
			return at
		case at:
			return 0
		}
		return place
	}
	other := impl.Forest{}
	for place := range f.Parts {
		whole := f.Parts[turn(place)]
		ways := []impl.Way{}
		for _, way := range whole.Ways {
			kids := []int{}
			for _, kid := range way.Kids {
				kids = append(kids, turn(kid))
			}
			ways = append(ways, impl.Way{Alt: way.Alt, Kids: kids})
		}
		whole.Ways = ways
		other.Parts = append(other.Parts, whole)
	}
	return other
}

// checkAsked holds what is asked of a forest, whatever it is, against the slow answers.
func checkAsked(t *testing.T, what string, f impl.Forest) {
	t.Helper()
	before := 0
	for height := -1; height <= 10; height++ {
		got := impl.CountForest(f, height)
		if want := slowCountForest(f, height); got != want {
			t.Fatalf("%s: CountForest(%v, %d) = %d, not %d", what, f, height, got, want)
		}
		if got < before || height < 1 && got != 0 {
			t.Fatalf("%s: CountForest(%v, %d) = %d, and %d below that", what, f, height, got, before)
		}
		before = got
	}
	if got, want := impl.Circles(f), slowCircles(f); got != want {
		t.Fatalf("%s: Circles(%v) = %v", what, f, got)
	}
	if got, want := impl.Ambiguous(f), slowAmbiguous(f); got != want {
		t.Fatalf("%s: Ambiguous(%v) = %v", what, f, got)
	}
}

// checkMet wants parts that are unlike, each behind those that are met ahead of it, and Ways in their order.
func checkMet(t *testing.T, what string, f impl.Forest) {
	t.Helper()
	heads, met := map[string]bool{}, 1
	for _, whole := range f.Parts {
		head := fmt.Sprint(whole.Rule, whole.Args, whole.From, whole.To)
		if heads[head] || len(whole.Ways) == 0 || len(whole.Ways) > 60 {
			t.Fatalf("%s: %s is there already, or has %d Ways", what, head, len(whole.Ways))
		}
		heads[head] = true
		before := []int(nil)
		for _, way := range whole.Ways {
			order := []int{way.Alt}
			for _, kid := range way.Kids {
				if kid < 0 || kid > met || kid >= len(f.Parts) {
					t.Fatalf("%s: the Kid %d is met when there are %d", what, kid, met)
				}
				met = max(met, kid+1)
				order = append(order, f.Parts[kid].To)
			}
			if before != nil && slices.Compare(before, order) >= 0 {
				t.Fatalf("%s: the Way of %v is behind that of %v", what, order, before)
			}
			before = order
		}
	}
	if met != len(f.Parts) || met > 200 {
		t.Fatalf("%s: %d parts are met of %d", what, met, len(f.Parts))
	}
}

// checkTaken wants each Way to take just what its part does, Kid behind Kid.
func checkTaken(t *testing.T, what string, g impl.Grammar, text string, f impl.Forest) {
	t.Helper()
	for _, whole := range f.Parts {
		for _, way := range whole.Ways {
			nodes, kids, at := []impl.TreeNode{}, []int{}, whole.From
			for i, kid := range way.Kids {
				below := f.Parts[kid]
				if below.From < at || below.To < below.From {
					t.Fatalf("%s: a Kid from %d, and that ahead of it to %d", what, below.From, at)
				}
				at = below.To
				nodes = append(nodes, treeNode(below.Rule, 0, below.Args, below.From, below.To))
				kids = append(kids, i)
			}
			nodes = append(nodes, treeNode(whole.Rule, way.Alt, whole.Args, whole.From, whole.To, kids...))
			if at > whole.To || !slowNodeOk(g, text, nodes, len(kids)) {
				t.Fatalf("%s: a Way of %v with the Kids %v does not take it", what, way.Alt, nodes)
			}
		}
	}
}

// checkForest holds ForestOf against the slow one, against what is said of each part, and against CountTrees of each part at each height.
func checkForest(t *testing.T, g impl.Grammar, text string) (impl.Forest, bool) {
	t.Helper()
	what := fmt.Sprintf("%v, %q", g, text)
	f, ok := impl.ForestOf(g, text)
	want, wantOk := slowForest(g, text)
	if ok != wantOk || fmt.Sprint(f) != fmt.Sprint(want) {
		t.Fatalf("ForestOf(%s) = %v, %v\nnot\n%v, %v", what, f, ok, want, wantOk)
	}
	if impl.ForestOk(g, text, f) != ok {
		t.Fatalf("%s: ForestOk is %v of its forest", what, !ok)
	}
	if !ok {
		if len(f.Parts) != 0 {
			t.Fatalf("%s: parts beside a false: %v", what, f)
		}
		return f, false
	}
	if whole := f.Parts[0]; !impl.Accepts(g, text) || whole.Rule != 0 || len(whole.Args) != 0 || whole.From != 0 || whole.To != len(text) {
		t.Fatalf("%s: the first part is %v", what, whole)
	}
	checkMet(t, what, f)
	checkTaken(t, what, g, text, f)
	checkAsked(t, what, f)
	for at, whole := range f.Parts[:min(len(f.Parts), 12)] {
		below := rooted(f, at)
		heights := []int{3, 8}
		if at == 0 {
			heights = []int{-1, 0, 1, 2, 3, 4, 5, 6, 7, 8, 9}
		}
		for _, height := range heights {
			got := impl.CountForest(below, height)
			if want := impl.CountTrees(g, text, g.Rules[whole.Rule].Name, whole.Args, whole.From, whole.To, height); got != want {
				t.Fatalf("%s: the part %d has %d trees of at most %d, and %d are counted", what, at, got, height, want)
			}
		}
	}
	return f, true
}

// forestIs wants just these parts with these Ways.
func forestIs(t *testing.T, what string, g impl.Grammar, text string, want ...string) impl.Forest {
	t.Helper()
	f, ok := checkForest(t, g, text)
	if got := forestPicture(g, f); !ok || got != strings.Join(want, "; ") {
		t.Errorf("%s, %q: %v,\n%s\nnot\n%s", what, text, ok, got, strings.Join(want, "; "))
	}
	return f
}

// askedIs wants what is asked of a forest: whether it is Ambiguous, whether there are Circles, and the counts of at most 1, 2, 3 .. high, behind these as many as of the last one.
func askedIs(t *testing.T, what string, f impl.Forest, ambiguous, circles bool, counts ...int) {
	t.Helper()
	checkAsked(t, what, f)
	if got := impl.Ambiguous(f); got != ambiguous {
		t.Errorf("%s: Ambiguous is %v", what, got)
	}
	if got := impl.Circles(f); got != circles {
		t.Errorf("%s: Circles is %v", what, got)
	}
	for height := 1; height <= 10; height++ {
		if got, want := impl.CountForest(f, height), counts[min(height, len(counts))-1]; got != want {
			t.Errorf("%s: %d trees of at most %d, not %d", what, got, height, want)
		}
	}
}

func noForest(t *testing.T, what string, g impl.Grammar, text string) {
	t.Helper()
	f, ok := impl.ForestOf(g, text)
	if ok || len(f.Parts) > 0 {
		t.Errorf("%s: ForestOf(%v, %q) = %v, %v", what, g, text, f, ok)
	}
	if impl.ForestOk(g, text, f) || impl.ForestOk(g, text, planted("-")) {
		t.Errorf("%s: ForestOk(%v, %q) of what is no forest", what, g, text)
	}
}

func TestForestsOfOneWayByHand(t *testing.T) {
	s, a, b := symCall("S"), symText("a"), symText("b")
	within := grammarOf(ruleOf("S", "", altOf(a, s, b), altOf()))
	askedIs(t, "nothing", forestIs(t, "nothing", within, "", "S@0-0 /1"), false, false, 1)
	askedIs(t, "within", forestIs(t, "within", within, "ab", "S@0-2 /0 1", "S@1-1 /1"), false, false, 0, 1)
	askedIs(t, "within twice", forestIs(t, "within twice", within, "aabb", "S@0-4 /0 1", "S@1-3 /0 2", "S@2-2 /1"), false, false, 0, 0, 1)
	askedIs(t, "no call", forestIs(t, "no call", oneRule(altOf(a, symSet("bc"))), "ac", "S@0-2 /0"), false, false, 1)
	length := forestIs(t, "a length", lengthGrammar(), "2ab", "S@0-3 /0 1 2", "D@0-1 /0", "Row2@1-3 /1 3", "Row1@2-3 /1 4", "Row0@3-3 /0")
	askedIs(t, "a length", length, false, false, 0, 0, 0, 1)
	climb := forestIs(t, "operators", climbGrammar(), "1+2^3",
		"S@0-5 /0 1", "E0@0-5 /0 2 3", "E1@0-1 /2 4", "E2@2-5 /1 5 6", "A@0-1 /0", "E3@2-3 /2 7", "E2@4-5 /2 8", "A@2-3 /0", "A@4-5 /0")
	askedIs(t, "operators", climb, false, false, 0, 0, 0, 0, 1)
	left := grammarOf(ruleOf("S", "", altOf(s, a), altOf(a)))
	askedIs(t, "at the left", forestIs(t, "at the left", left, "aaa", "S@0-3 /0 1", "S@0-2 /0 2", "S@0-1 /1"), false, false, 0, 0, 1)
	right := grammarOf(ruleOf("S", "", altOf(a, s), altOf(a)))
	askedIs(t, "at the right", forestIs(t, "at the right", right, "aaa", "S@0-3 /0 1", "S@1-3 /0 2", "S@2-3 /1"), false, false, 0, 0, 1)
	twelve := forestIs(t, "12 bytes", left, strings.Repeat("a", 12), "S@0-12 /0 1", "S@0-11 /0 2", "S@0-10 /0 3", "S@0-9 /0 4", "S@0-8 /0 5",
		"S@0-7 /0 6", "S@0-6 /0 7", "S@0-5 /0 8", "S@0-4 /0 9", "S@0-3 /0 10", "S@0-2 /0 11", "S@0-1 /1")
	askedIs(t, "too high", twelve, false, false, 0)
	askedIs(t, "as high as may be", forestIs(t, "8 bytes", right, strings.Repeat("a", 8),
		"S@0-8 /0 1", "S@1-8 /0 2", "S@2-8 /0 3", "S@3-8 /0 4", "S@4-8 /0 5", "S@5-8 /0 6", "S@6-8 /0 7", "S@7-8 /1"), false, false, 0, 0, 0, 0, 0, 0, 0, 1)
}

func TestForestsOfSeveralWaysByHand(t *testing.T) {
	s, a, b := symCall("S"), symText("a"), symText("b")
	alts := grammarOf(ruleOf("S", "", altOf(a), altOf(b), altOf(a), altOf(symSet("a-c"))))
	askedIs(t, "Alts", forestIs(t, "Alts", alts, "a", "S@0-1 /0 /2 /3"), true, false, 3)
	askedIs(t, "other Alts", forestIs(t, "other Alts", alts, "b", "S@0-1 /1 /3"), true, false, 2)
	askedIs(t, "one Alt", forestIs(t, "one Alt", alts, "c", "S@0-1 /3"), false, false, 1)
	two := grammarOf(ruleOf("S", "", altOf(symCall("U"), b), altOf(symCall("T"), b)), ruleOf("T", "", altOf(a)), ruleOf("U", "", altOf(a)))
	askedIs(t, "two rules", forestIs(t, "two rules", two, "ab", "S@0-2 /0 1 /1 2", "U@0-1 /0", "T@0-1 /0"), true, false, 0, 2)
	askedIs(t, "one", forestIs(t, "one", bothSides(), "a", "S@0-1 /1"), false, false, 1)
	askedIs(t, "two", forestIs(t, "two", bothSides(), "aa", "S@0-2 /0 1 2", "S@0-1 /1", "S@1-2 /1"), false, false, 0, 1)
	three := forestIs(t, "three", bothSides(), "aaa", "S@0-3 /0 1 2 /0 3 4", "S@0-1 /1", "S@1-3 /0 5 4", "S@0-2 /0 1 5", "S@2-3 /1", "S@1-2 /1")
	askedIs(t, "three", three, true, false, 0, 0, 2)
	four := forestIs(t, "four", bothSides(), "aaaa", "S@0-4 /0 1 2 /0 3 4 /0 5 6", "S@0-1 /1", "S@1-4 /0 7 4 /0 8 6", "S@0-2 /0 1 7", "S@2-4 /0 9 6",
		"S@0-3 /0 1 8 /0 3 9", "S@3-4 /1", "S@1-2 /1", "S@1-3 /0 7 9", "S@2-3 /1")
	askedIs(t, "four", four, true, false, 0, 0, 1, 5)
	// Not the first part, but one below it, has two Ways.
	below := grammarOf(ruleOf("S", "", altOf(a, symCall("T"))), ruleOf("T", "", altOf(symCall("U"))), ruleOf("U", "", altOf(b), altOf(symSet("ab"))))
	askedIs(t, "below", forestIs(t, "below", below, "ab", "S@0-2 /0 1", "T@1-2 /0 2", "U@1-2 /0 /1"), true, false, 0, 0, 2)
	askedIs(t, "one below", forestIs(t, "one below", below, "aa", "S@0-2 /0 1", "T@1-2 /0 2", "U@1-2 /1"), false, false, 0, 0, 1)
	// What has two ways over another part of the text, or with another end, is no part.
	apart := grammarOf(ruleOf("S", "", altOf(symCall("T"), b), altOf(a, s)), ruleOf("T", "", altOf(a), altOf(symSet("a")), altOf(), altOf(symText("aa"))))
	askedIs(t, "apart", forestIs(t, "apart", apart, "b", "S@0-1 /0 1", "T@0-0 /2"), false, false, 0, 1)
	askedIs(t, "apart", forestIs(t, "apart", apart, "ab", "S@0-2 /0 1 /1 2", "T@0-1 /0 /1", "S@1-2 /0 3", "T@1-1 /2"), true, false, 0, 2, 3)
}

// The Alts first, then the first Kid's end, then the next one's: not the order in which the ends came.
func TestTheOrderOfWaysByHand(t *testing.T) {
	a, u := symText("a"), symCall("U")
	rule := ruleOf("U", "", altOf(symText("aa")), altOf(a), altOf())
	three := forestIs(t, "three Kids", grammarOf(ruleOf("S", "", altOf(u, u, u)), rule), "aa",
		"S@0-2 /0 1 1 2 /0 1 3 4 /0 1 2 5 /0 3 6 4 /0 3 4 5 /0 2 5 5", "U@0-0 /2", "U@0-2 /0", "U@0-1 /1", "U@1-2 /1", "U@2-2 /2", "U@1-1 /2")
	askedIs(t, "three Kids", three, true, false, 0, 6)
	// The first Alt has the greater end of U, and comes first.
	greater := grammarOf(ruleOf("S", "", altOf(u, a), altOf(u, symText("aa")), altOf(symText("aaa"))), rule)
	askedIs(t, "Alts", forestIs(t, "Alts", greater, "aaa", "S@0-3 /0 1 /1 2 /2", "U@0-2 /0", "U@0-1 /1"), true, false, 1, 3)
	// Parts come part by part: the Kids of the first one's last Way are ahead of those of its first Kid.
	floors := grammarOf(
		ruleOf("S", "", altOf(symCall("T"), symCall("V")), altOf(symCall("W"))),
		ruleOf("T", "", altOf(symCall("X")), altOf(symCall("W"))), ruleOf("V", "", altOf(symCall("Y"))),
		ruleOf("W", "", altOf(symCall("Y"), symCall("X"))), ruleOf("X", "", altOf()), ruleOf("Y", "", altOf()))
	told := forestIs(t, "floors", floors, "", "S@0-0 /0 1 2 /1 3", "T@0-0 /0 4 /1 3", "V@0-0 /0 5", "W@0-0 /0 5 4", "X@0-0 /0", "Y@0-0 /0")
	askedIs(t, "floors", told, true, false, 0, 0, 2, 3)
}

// Rows of as many Kids as there may be, which go apart at each of them.
func TestRowsOfEachLength(t *testing.T) {
	rule := ruleOf("T", "", altOf(), altOf(symText("a"), symCall("T")))
	for kids := 1; kids <= 8; kids++ {
		g := grammarOf(ruleOf("S", "", altOf(slices.Repeat([]impl.Sym{symCall("T")}, kids)...)), rule)
		for length := range 6 {
			// So many ways there are to put bars between the bytes.
			want := int(new(big.Int).Binomial(int64(length+kids-1), int64(kids-1)).Int64())
			f, ok := checkForest(t, g, strings.Repeat("a", length))
			if ok != (want <= 60) || ok && len(f.Parts[0].Ways) != want {
				t.Errorf("%d Kids, %d bytes: %v, not %d Ways", kids, length, ok, want)
			}
		}
	}
	eight := grammarOf(ruleOf("S", "", altOf(slices.Repeat([]impl.Sym{symCall("T")}, 8)...)), rule)
	forestIs(t, "eight Kids", eight, "a",
		"S@0-1 /0 1 1 1 1 1 1 1 2 /0 1 1 1 1 1 1 2 3 /0 1 1 1 1 1 2 3 3 /0 1 1 1 1 2 3 3 3 /0 1 1 1 2 3 3 3 3 /0 1 1 2 3 3 3 3 3 /0 1 2 3 3 3 3 3 3 /0 2 3 3 3 3 3 3 3",
		"T@0-0 /0", "T@0-1 /1 3", "T@1-1 /0")
}

// An Alt that stands twice has a Way each time, with the same Kids: the trees are two, for their Alts are unlike.
func TestWaysThatAreTheSameAreEachThere(t *testing.T) {
	a, both := symText("a"), altOf(symCall("T"), symCall("U"))
	rules := []impl.Rule{ruleOf("T", "", altOf(a)), ruleOf("U", "", altOf(a), altOf(a))}
	g := grammarOf(append([]impl.Rule{ruleOf("S", "", both, both)}, rules...)...)
	askedIs(t, "twice", forestIs(t, "twice", g, "aa", "S@0-2 /0 1 2 /1 1 2", "T@0-1 /0", "U@1-2 /0 /1"), true, false, 0, 4)
	g = grammarOf(append([]impl.Rule{ruleOf("S", "", both, altOf(symText("aa")), both, altOf(symCall("T"), a), both)}, rules...)...)
	askedIs(t, "three times", forestIs(t, "three times", g, "aa", "S@0-2 /0 1 2 /1 /2 1 2 /3 1 /4 1 2", "T@0-1 /0", "U@1-2 /0 /1"), true, false, 1, 8)
	for count := 1; count <= 8; count++ {
		want := "S@0-0"
		for alt := range count {
			want += fmt.Sprint(" /", alt)
		}
		f := forestIs(t, "nothing", grammarOf(ruleOf("S", "", slices.Repeat([]impl.Alt{altOf()}, count)...)), "", want)
		askedIs(t, "nothing", f, count > 1, false, count)
	}
	// The same Alt but for what it asks, or for what it binds and does not ask.
	asks := grammarOf(
		ruleOf("S", "", altOf(symBound("n", "T")), altOf(symCall("T")), altOf(symBound("n", "T"), symIf(asked("n"))), altOf(symBound("n", "T"), symIf(exprOf(named("n"), not(0))))),
		rules[0])
	askedIs(t, "asked", forestIs(t, "asked", asks, "a", "S@0-1 /0 1 /1 1 /2 1", "T@0-1 /0"), true, false, 0, 3)
}

func TestPartsThatDifferInOneThingByHand(t *testing.T) {
	a, call := symText("a"), symCall("T")
	unlike := grammarOf(ruleOf("S", "", altOf(symCall("R", number(1)), symCall("R", number(2)))), ruleOf("R", "n", altOf(), altOf(symIf(same(named("n"), num(2))))))
	askedIs(t, "Args", forestIs(t, "Args", unlike, "", "S@0-0 /0 1 2", "R1@0-0 /0", "R2@0-0 /0 /1"), true, false, 0, 2)
	pairs := grammarOf(
		ruleOf("S", "", altOf(symCall("R", number(0), number(1)), symCall("R", number(1), number(0)), symCall("R", number(0), number(1)))), ruleOf("R", "a b", altOf()))
	askedIs(t, "Args in another order", forestIs(t, "Args in another order", pairs, "", "S@0-0 /0 1 2 1", "R0,1@0-0 /0", "R1,0@0-0 /0"), false, false, 0, 1)
	// T from 0 to 0 and T from 0 to 1 differ in To alone, T from 0 to 1 and T from 1 to 1 in From alone.
	ends := grammarOf(ruleOf("S", "", altOf(call, call)), ruleOf("T", "", altOf(), altOf(a)))
	askedIs(t, "From and To", forestIs(t, "From and To", ends, "a", "S@0-1 /0 1 2 /0 2 3", "T@0-0 /0", "T@0-1 /1", "T@1-1 /0"), true, false, 0, 2)
	rules := grammarOf(ruleOf("S", "", altOf(call, symCall("U"))), ruleOf("T", "", altOf()), ruleOf("U", "", altOf()))
	askedIs(t, "Rules", forestIs(t, "Rules", rules, "", "S@0-0 /0 1 2", "T@0-0 /0", "U@0-0 /0"), false, false, 0, 1)
	// Six Params, of which each is turned once.
	six := grammarOf(ruleOf("S", ""), ruleOf("R", "a b c d e f", altOf()))
	want, kids := "S@0-0 /0", ""
	for i := range 6 {
		args := slices.Repeat([]impl.Expr{number(1)}, 6)
		args[i] = number(2)
		if six.Rules[0].Alts == nil {
			six.Rules[0].Alts = []impl.Alt{altOf(symCall("R", numbers(6)...))}
			want, kids = want+" 1", "; R1,1,1,1,1,1@0-0 /0"
		}
		six.Rules[0].Alts[0].Syms = append(six.Rules[0].Alts[0].Syms, symCall("R", args...))
		want += fmt.Sprint(" ", i+2)
		kids += "; R" + strings.Repeat("1,", i) + "2" + strings.Repeat(",1", 5-i) + "@0-0 /0"
	}
	forestIs(t, "six Params", six, "", want+kids)
}

// A part is told once, however often it is a Kid; its trees are counted each time.
func TestAPartThatIsAKidSeveralTimesByHand(t *testing.T) {
	call := symCall("T")
	two := ruleOf("T", "", altOf(), altOf(symCall("E")))
	g := grammarOf(ruleOf("S", "", altOf(call, call)), two, ruleOf("E", "", altOf()))
	askedIs(t, "twice", forestIs(t, "twice", g, "", "S@0-0 /0 1 1", "T@0-0 /0 /1 2", "E@0-0 /0"), true, false, 0, 1, 4)
	g.Rules[0].Alts = []impl.Alt{altOf(call), altOf(call, call, call), altOf(symCall("E"), call)}
	askedIs(t, "in three Ways", forestIs(t, "in three Ways", g, "", "S@0-0 /0 1 /1 1 1 1 /2 2 1", "T@0-0 /0 /1 2", "E@0-0 /0"), true, false, 0, 3, 12)
	g.Rules[0].Alts = []impl.Alt{altOf(slices.Repeat([]impl.Sym{call}, 8)...)}
	askedIs(t, "eight times", forestIs(t, "eight times", g, "", "S@0-0 /0 1 1 1 1 1 1 1 1", "T@0-0 /0 /1 2", "E@0-0 /0"), true, false, 0, 1, 256)
	// Below two others, and of the same rule at two places.
	g = grammarOf(ruleOf("S", "", altOf(symCall("U"), call, symText("a"), symCall("U"))), ruleOf("U", "", altOf(call, call)), ruleOf("T", "", altOf(), altOf()))
	below := forestIs(t, "below two", g, "a", "S@0-1 /0 1 2 3", "U@0-0 /0 2 2", "T@0-0 /0 /1", "U@1-1 /0 4 4", "T@1-1 /0 /1")
	askedIs(t, "below two", below, true, false, 0, 0, 32)
}

func TestForestsWithNumbersByHand(t *testing.T) {
	any := ruleOf("Any", "", altOf(), altOf(symSet("a-z0-9"), symCall("Any")))
	asks := func(ask impl.Expr) impl.Grammar {
		return grammarOf(ruleOf("S", "", altOf(symBound("n", "Any"), symCall("Any"), symIf(ask), symText("+"))), any)
	}
	askedIs(t, "whatever is bound", forestIs(t, "whatever is bound", asks(number(7)), "a+",
		"S@0-2 /0 1 2 /0 2 3", "Any@0-0 /0", "Any@0-1 /1 3", "Any@1-1 /0"), true, false, 0, 0, 2)
	askedIs(t, "0 alone", forestIs(t, "0 alone", asks(same(named("n"), num(0))), "a+", "S@0-2 /0 1 2", "Any@0-0 /0", "Any@0-1 /1 3", "Any@1-1 /0"), false, false, 0, 0, 1)
	askedIs(t, "1 alone", forestIs(t, "1 alone", asks(same(named("n"), num(1))), "a+", "S@0-2 /0 1 2", "Any@0-1 /1 2", "Any@1-1 /0"), false, false, 0, 0, 1)
	askedIs(t, "12 alone", forestIs(t, "12 alone", asks(same(named("n"), num(12))), "12+", "S@0-3 /0 1 2", "Any@0-2 /1 3", "Any@2-2 /0", "Any@1-2 /1 2"), false, false, 0, 0, 0, 1)
	noForest(t, "2 alone", asks(same(named("n"), num(2))), "a+")
	// The same place is come to with unlike numbers: from there some go on, and some do not.
	behind := grammarOf(ruleOf("S", "", altOf(symBound("m", "Any"), symBound("n", "Any"), symCall("Any"), symIf(same(named("n"), num(1))), symIf(same(named("m"), num(1))))), any)
	askedIs(t, "1 and 1 behind others", forestIs(t, "1 and 1 behind others", behind, "ab", "S@0-2 /0 1 2 3", "Any@0-1 /1 4", "Any@1-2 /1 3", "Any@2-2 /0", "Any@1-1 /0"), false, false, 0, 0, 1)
	for n, want := range []string{"S@0-2 /0 1 1 2", "S@0-2 /0 1 2 3", "S@0-2 /0 1 2 3"} {
		behind.Rules[0].Alts[0].Syms[3] = symIf(same(named("n"), num(n)))
		behind.Rules[0].Alts[0].Syms[4] = symIf(same(named("m"), num(0)))
		if f, ok := checkForest(t, behind, "ab"); !ok || !strings.HasPrefix(forestPicture(behind, f), want+"; ") {
			t.Errorf("0 and %d: %s", n, forestPicture(behind, f))
		}
	}
	// A number that is handed on makes parts of one rule unlike.
	split := grammarOf(
		ruleOf("S", "", altOf(symBound("n", "Any"), symBound("m", "Any"), symText("+"), symCall("W", asked("n")))),
		ruleOf("W", "n", altOf(symText("a")), altOf(symIf(asked("n")), symText("a"))), any)
	askedIs(t, "handed on", forestIs(t, "handed on", split, "b+a",
		"S@0-3 /0 1 2 3 /0 2 4 5", "Any@0-0 /0", "Any@0-1 /1 4", "W0@2-3 /0", "Any@1-1 /0", "W1@2-3 /0 /1"), true, false, 0, 0, 3)
	// The place is asked for, by an SyIf and by an Arg.
	here := grammarOf(ruleOf("S", "", altOf(symCall("Any"), symIf(same(hereNode(), num(1))), symCall("N", exprOf(hereNode())))), any, ruleOf("N", "n", altOf(symCall("Any"))))
	askedIs(t, "here", forestIs(t, "here", here, "ab", "S@0-2 /0 1 2", "Any@0-1 /1 3", "N1@1-2 /0 4", "Any@1-1 /0", "Any@1-2 /1 5", "Any@2-2 /0"), false, false, 0, 0, 0, 1)
	for _, seal := range []impl.Expr{exprOf(num(1), num(0), pair(impl.ExDiv, 0, 1)), beyondAbove(), number(0)} {
		noForest(t, "an SyIf that does not go on", asks(seal), "a+")
	}
	for _, arg := range []impl.Expr{exprOf(num(0), num(1), pair(impl.ExSub, 0, 1)), exprOf(num(99), num(1), pair(impl.ExAdd, 0, 1)), exprOf(num(1), num(0), pair(impl.ExDiv, 0, 1))} {
		forestIs(t, "an Arg that is none", oneRule(altOf(symCall("N", arg)), altOf()), "", "S@0-0 /1")
	}
	most := oneRule(altOf(symCall("N", number(99))), altOf(symCall("N", number(0))))
	if f, ok := checkForest(t, most, "a"); ok || len(f.Parts) > 0 {
		t.Errorf("N takes no a: %v", f)
	}
}

// Rules in circles that take nothing are told once, and come to themselves; there is a tree more for each height.
func TestForestsWithCirclesByHand(t *testing.T) {
	s, a := symCall("S"), symText("a")
	askedIs(t, "itself", forestIs(t, "itself", grammarOf(ruleOf("S", "", altOf(s), altOf(a))), "a", "S@0-1 /0 0 /1"), true, true, 1, 2, 3, 4, 5, 6, 7, 8)
	askedIs(t, "itself, last", forestIs(t, "itself, last", grammarOf(ruleOf("S", "", altOf(a), altOf(s))), "a", "S@0-1 /0 /1 0"), true, true, 1, 2, 3, 4, 5, 6, 7, 8)
	twice := forestIs(t, "itself twice", grammarOf(ruleOf("S", "", altOf(s), altOf(a), altOf(s))), "a", "S@0-1 /0 0 /1 /2 0")
	askedIs(t, "itself twice", twice, true, true, 1, 3, 7, 15, 31, 63, 127, 255)
	two := grammarOf(ruleOf("S", "", altOf(symCall("T")), altOf(a)), ruleOf("T", "", altOf(s)))
	askedIs(t, "a circle of two", forestIs(t, "a circle of two", two, "a", "S@0-1 /0 1 /1", "T@0-1 /0 0"), true, true, 1, 1, 2, 2, 3, 3, 4, 4)
	nothing := grammarOf(ruleOf("S", "", altOf(), altOf(s, s)))
	askedIs(t, "two of nothing", forestIs(t, "two of nothing", nothing, "", "S@0-0 /0 /1 0 0"), true, true, 1, 2, 5, 26, 677, 458330, 1000000)
	hidden := grammarOf(ruleOf("S", "", altOf(symCall("E"), s, symCall("E")), altOf(a)), ruleOf("E", "", altOf()))
	askedIs(t, "behind nothing", forestIs(t, "behind nothing", hidden, "a", "S@0-1 /0 1 0 2 /1", "E@0-0 /0", "E@1-1 /0"), true, true, 1, 2, 3, 4, 5, 6, 7, 8)
	// A circle that the first part only comes to.
	below := grammarOf(ruleOf("S", "", altOf(a, symCall("T"))), ruleOf("T", "", altOf(symCall("U")), altOf()), ruleOf("U", "", altOf(symCall("T"))))
	askedIs(t, "below", forestIs(t, "below", below, "a", "S@0-1 /0 1", "T@1-1 /0 2 /1", "U@1-1 /0 1"), true, true, 0, 1, 1, 2, 2, 3, 3, 4)
	// Rules that call themselves, but never at the same place to the same end, or with other numbers, are in no circle.
	down := exprOf(named("n"), num(1), pair(impl.ExSub, 0, 1))
	counts := grammarOf(ruleOf("S", "", altOf(symCall("R", number(2)))), ruleOf("R", "n", altOf(symIf(asked("n")), symCall("R", down)), altOf(symIf(exprOf(named("n"), not(0))), a)))
	askedIs(t, "other numbers", forestIs(t, "other numbers", counts, "a", "S@0-1 /0 1", "R2@0-1 /0 2", "R1@0-1 /0 3", "R0@0-1 /1"), false, false, 0, 0, 0, 1)
	// A rule in a circle that is never come out of has no trees, and no parts.
	noForest(t, "a circle alone", grammarOf(ruleOf("S", "", altOf(s))), "")
	beside := grammarOf(ruleOf("S", "", altOf(symCall("T")), altOf(a)), ruleOf("T", "", altOf(symCall("T"))))
	askedIs(t, "a circle beside it", forestIs(t, "a circle beside it", beside, "a", "S@0-1 /1"), false, false, 1)
	// Over more of the text than the rest leaves it: a row of such parts.
	row := grammarOf(ruleOf("S", "", altOf(s, s), altOf(a), altOf()))
	askedIs(t, "a row, with nothing", forestIs(t, "a row, with nothing", row, "a", "S@0-1 /0 1 0 /0 0 2 /1", "S@0-0 /0 1 1 /2", "S@1-1 /0 2 2 /2"), true, true, 1, 3, 13, 131, 6813, 1000000)
}

// What is asked of forests that ForestOf never makes.
func TestPlantedForests(t *testing.T) {
	for _, try := range []struct {
		told               string
		ambiguous, circles bool
		counts             []int
	}{
		{"", false, false, []int{0}},
		{".", false, false, []int{0}},
		{"-", false, false, []int{1}},
		{"- | -", true, false, []int{2}},
		{"- | - | - | - | -", true, false, []int{5}},
		{"0", false, true, []int{0}},
		{"0 0", false, true, []int{0}},
		{"0 | -", true, true, []int{1, 2, 3, 4, 5, 6, 7, 8}},
		{"1; -", false, false, []int{0, 1}},
		{"1; .", false, false, []int{0}},
		{"1 | -; .", true, false, []int{1}},
		{"1 | 1; .", true, false, []int{0}},
		{"1 2; -; .", false, false, []int{0}},
		{"1 1; - | -", true, false, []int{0, 4}},
		{"1 | 1 1 | 1 1 1; - | -", true, false, []int{0, 14}},
		// Ways that are the same count each.
		{"1 | 1; -", true, false, []int{0, 2}},
		// Parts that the first one does not come to.
		{"-; -", false, false, []int{1}},
		{"-; - | -", false, false, []int{1}},
		{"-; 0 | 0", false, false, []int{1}},
		{"-; 1", false, true, []int{1}},
		{"-; 1 | -", false, true, []int{1}},
		{"-; 2; 1", false, true, []int{1}},
		{"-; 2; 3; 1", false, true, []int{1}},
		{"-; 2; 3; -", false, false, []int{1}},
		{"-; 0 2 | 2; 0", false, false, []int{1}},
		{".; - | -; 2", false, true, []int{0}},
		// A part that comes to the first one, which does not come to it.
		{"2; 0 | 0; -", false, false, []int{0, 1}},
		{"2; 1 0; -", false, true, []int{0, 1}},
		// Circles below the first part, and through it.
		{"1; 0", false, true, []int{0}},
		{"1; 2; 0", false, true, []int{0}},
		{"1; 2; 1", false, true, []int{0}},
		{"1; 2; 2", false, true, []int{0}},
		{"1; 2; 2 | -", true, true, []int{0, 0, 1, 2, 3, 4, 5, 6}},
		{"1 | -; 2; 0", true, true, []int{1, 1, 1, 2, 2, 2, 3, 3}},
		// Come to in several ways, and not again.
		{"1 2; 3; 3; -", false, false, []int{0, 0, 1}},
		{"1 2 3; 2 3; 3; - | -", true, false, []int{0, 0, 0, 16}},
		{"3 2 1; -; 1; 2 1", false, false, []int{0, 0, 0, 1}},
		{"1 | 2; 3 | 3; 3 | -; - | -", true, false, []int{0, 1, 7}},
		// Only the last of all has two Ways.
		{"1; 2; 3; 4; - | -", true, false, []int{0, 0, 0, 0, 2}},
		// Height 8 of a row of 8, and of 9.
		{"1; 2; 3; 4; 5; 6; 7; -", false, false, []int{0, 0, 0, 0, 0, 0, 0, 1}},
		{"1; 2; 3; 4; 5; 6; 7; 8; -", false, false, []int{0}},
		{"1 | -; 2; 3; 4; 5; 6; 7; 8; -", true, false, []int{1}},
	} {
		askedIs(t, try.told, planted(try.told), try.ambiguous, try.circles, try.counts...)
	}
}

// With a Kid that is no place, wherever it stands, there are no trees; from there nothing is come to.
func TestKidsThatAreNoPlaces(t *testing.T) {
	for _, kid := range []int{leastInt, -100, -2, -1, 3, 4, 100, greatestInt} {
		wrong := func(told string) impl.Forest { return planted(strings.ReplaceAll(told, "x", fmt.Sprint(kid))) }
		for _, try := range []struct {
			told               string
			ambiguous, circles bool
		}{
			{"x; -; -", false, false},
			{"x | -; -; -", true, false},
			{"- | x; -; -", true, false},
			{"x 1; - | -; -", true, false},
			{"1 x; - | -; -", true, false},
			{"1 x 1; -; -", false, false},
			{"1; x; -", false, false},
			{"1; 2; x", false, false},
			{"1; 2; 0 x", false, true},
			{"-; x; -", false, false},
			{"-; -; x", false, false},
			{"-; -; - | x", false, false},
			{"-; -; 2 x", false, true},
			{"-; 1 | x; -", false, true},
			{"-; -; 1 1 1 1 1 1 1 1 1 1 x", false, false},
		} {
			askedIs(t, fmt.Sprint(try.told, ", ", kid), wrong(try.told), try.ambiguous, try.circles, 0)
		}
	}
	for count := range 5 {
		f := planted("-" + strings.Repeat("; -", count))
		for kid := -2; kid < 8; kid++ {
			f.Parts[count].Ways[0].Kids = []int{kid}
			if got, want := impl.CountForest(f, 8), oneOf(kid >= 0 && kid <= count && count > 0); got != want {
				t.Errorf("%d parts, the Kid %d: %d", count+1, kid, got)
			}
			checkAsked(t, "a Kid", f)
		}
	}
}

func TestHeightsOfForestsAtTheirEdges(t *testing.T) {
	itself := planted("0 | -")
	for _, height := range []int{leastInt, -100, -8, -2, -1, 0} {
		for _, told := range []string{"", ".", "-", "0 | -", "1; -", "- | - | -"} {
			if got := impl.CountForest(planted(told), height); got != 0 {
				t.Errorf("%s: %d trees of at most %d", told, got, height)
			}
		}
	}
	for _, height := range []int{1, 2, 6, 7, 8, 9, 10, 12, 13, 100, greatestInt} {
		if got := impl.CountForest(itself, height); got != min(height, 8) {
			t.Errorf("%d trees of at most %d", got, height)
		}
	}
	for depth := range 12 {
		g := deepGrammar(depth)
		f, ok := checkForest(t, g, "")
		if !ok || len(f.Parts) != depth+2 {
			t.Fatalf("a row of %d: %v", depth, f)
		}
		for height := -2; height < 12; height++ {
			if got, want := impl.CountForest(f, height), oneOf(depth+2 <= min(height, 8)); got != want {
				t.Errorf("a row of %d, at most %d high: %d", depth+2, height, got)
			}
		}
	}
}

// ways is a part of so many Ways without Kids, told as planted wants it.
func ways(count int) string { return strings.Join(slices.Repeat([]string{"-"}, count), " | ") }

func TestForestCountsAtTheirGreatest(t *testing.T) {
	for _, count := range []int{1, 2, 60, 61, 1000, 999999, 1000000, 1000001, 1500000} {
		f := impl.Forest{Parts: []impl.Part{{Ways: make([]impl.Way, count)}}}
		if got := impl.CountForest(f, 8); got != min(count, 1000000) {
			t.Errorf("%d Ways: %d", count, got)
		}
		f.Parts = append([]impl.Part{{Ways: []impl.Way{{Kids: []int{1}}, {}}}}, f.Parts...)
		if got := impl.CountForest(f, 8); got != min(count+1, 1000000) {
			t.Errorf("%d Ways, and one: %d", count, got)
		}
	}
	for _, try := range [][2]int{{1, 1}, {2, 3}, {999, 1001}, {1000, 1000}, {1000, 1001}, {1001, 999}, {1001, 1001}, {1, 1000}, {3000, 333}, {3000, 334}} {
		f := planted("1 2; " + ways(try[0]) + ";" + ways(try[1]))
		askedIs(t, fmt.Sprint(try), f, try[0] > 1 || try[1] > 1, false, 0, min(try[0]*try[1], 1000000))
		// Another way beside it, and below another.
		f = planted("1 2 | -; " + ways(try[0]) + ";" + ways(try[1]))
		askedIs(t, fmt.Sprint(try, " and one"), f, true, false, 1, min(try[0]*try[1]+1, 1000000))
		f = planted("3 | -; " + ways(try[0]) + ";" + ways(try[1]) + "; 1 2")
		askedIs(t, fmt.Sprint(try, " below one"), f, true, false, 1, 1, min(try[0]*try[1]+1, 1000000))
		// Beside a part that has none there is no tree, however many the others have, wherever it stands.
		for _, row := range []string{"1 2 3", "1 3 2", "3 1 2", "1 1 1 1 1 1 1 1 1 1 1 1 2 2 2 2 2 2 2 2 2 2 3"} {
			f = planted(row + "; " + ways(try[0]) + ";" + ways(try[1]) + "; .")
			askedIs(t, fmt.Sprint(try, " and none"), f, try[0] > 1 || try[1] > 1, false, 0)
		}
	}
	// As many Kids as make a number that no int can hold.
	for _, times := range []int{1, 2, 6, 7, 10, 63, 64, 65, 1000} {
		f := planted(strings.Repeat("1 ", times) + "; " + ways(10))
		if got := impl.CountForest(f, 8); got != []int{0, 10, 100, 0, 0, 0, 1000000}[min(times, 6)] {
			t.Errorf("10 to the power of %d: %d", times, got)
		}
		checkAsked(t, "a power", f)
		twice := planted(strings.Repeat("1 ", times) + "; " + ways(2))
		want := 1000000
		if times < 20 {
			want = 1 << times
		}
		if got := impl.CountForest(twice, 8); got != want {
			t.Errorf("2 to the power of %d: %d", times, got)
		}
	}
	for _, count := range []int{1, 7, 8, 9, 60, 61, 5000, 999999, 1000000, 1000001, 4000000} {
		g := grammarOf(countedRules("T", count)...)
		f, ok := checkForest(t, g, "")
		if got := impl.CountForest(f, 8); !ok || got != min(count, 1000000) {
			t.Errorf("rules of %d trees: %d, %v", count, got, ok)
		}
	}
}

// rowOfParts has S, which takes a z, and is so many parts with those below it, one below the other.
func rowOfParts(count int) impl.Grammar {
	// C of 1 and b has all of greater numbers below it, C of 1 and 0 just 200.
	if count <= 101 {
		return countGrammar(altOf(symCall("C", number(2), number(101-count))))
	}
	return countGrammar(altOf(symCall("C", number(1-(count-2)/200), number((201-count+100)%100))))
}

func TestAsManyPartsAsThereMayBe(t *testing.T) {
	t.Parallel()
	for _, count := range []int{2, 3, 100, 101, 102, 150, 198, 199, 200} {
		f, ok := checkForest(t, rowOfParts(count), "z")
		if !ok || len(f.Parts) != count {
			t.Fatalf("%d parts: %v, %d", count, ok, len(f.Parts))
		}
		for at, whole := range f.Parts {
			if at < count-1 && (len(whole.Ways) != 1 || fmt.Sprint(whole.Ways[0].Kids) != fmt.Sprint([]int{at + 1})) {
				t.Fatalf("%d parts: %d is %v", count, at, whole)
			}
		}
		counts := []int{}
		for height := 1; height <= 8; height++ {
			counts = append(counts, oneOf(count <= height))
		}
		askedIs(t, "a row", f, false, false, counts...)
	}
	noForest(t, "201 parts", rowOfParts(201), "z")
	noForest(t, "202 parts", rowOfParts(202), "z")
	// All T from each place to each other, 91, U from each place to the end, 13, R of n, n + 1, and S.
	down := exprOf(named("n"), num(1), pair(impl.ExSub, 0, 1))
	many := func(n int) impl.Grammar {
		return grammarOf(
			ruleOf("S", "", altOf(symCall("R", number(n)), symCall("T"), symCall("U"))),
			ruleOf("T", "", altOf(), altOf(symText("a"), symCall("T"))), ruleOf("U", "", altOf(), altOf(symText("a"), symCall("U"))),
			ruleOf("R", "n", altOf(symIf(asked("n")), symCall("R", down)), altOf(symIf(exprOf(named("n"), not(0))))))
	}
	text := strings.Repeat("a", 12)
	for _, n := range []int{0, 50, 93, 94} {
		if f, ok := checkForest(t, many(n), text); !ok || len(f.Parts) != 106+n || len(f.Parts[0].Ways) != 13 {
			t.Fatalf("R of %d: %d parts, %v", n, len(f.Parts), ok)
		}
	}
	for _, n := range []int{95, 96, 99} {
		checkForest(t, many(n), text)
		noForest(t, "201 parts and more", many(n), text)
	}
	if _, ok := checkForest(t, many(95), text[1:]); !ok {
		t.Error("over a shorter text there are less parts")
	}
	// The 201st part is the very last Kid of all, though it has no Kids, or is met within a row whose other Kids are there.
	last := rowOfParts(200)
	if f, ok := impl.ForestOf(last, "z"); !ok || len(f.Parts) != 200 {
		t.Fatalf("200 parts: %v", ok)
	}
	for _, syms := range [][]impl.Sym{{symCall("D")}, {symIf(number(1)), symCall("D")}} {
		more := rowOfParts(200)
		alt := &more.Rules[1].Alts[2]
		alt.Syms = append(slices.Clone(alt.Syms), syms...)
		noForest(t, "nothing more", more, "z")
		if _, ok := checkForest(t, more, "z1"); ok {
			t.Error("201 parts")
		}
		less := rowOfParts(199)
		less.Rules[1].Alts[2].Syms = alt.Syms
		if f, ok := checkForest(t, less, "z1"); !ok || len(f.Parts) != 200 {
			t.Errorf("199 parts and one: %d, %v", len(f.Parts), ok)
		}
	}
	// Goals that are no parts do not count: 300 of them, and of the text S is the only part.
	goals := countGrammar(altOf(symCall("C", number(0), number(1))))
	if f := forestIs(t, "300 goals", goals, "y", "S@0-1 /1"); impl.CountForest(f, 8) != 1 {
		t.Error("300 goals")
	}
	noForest(t, "301 goals", countGrammar(altOf(symCall("C", number(0), number(0)))), "y")
	noForest(t, "300 parts", goals, "z")
}

func TestAsManyWaysAsThereMayBe(t *testing.T) {
	call := symCall("T")
	rule := ruleOf("T", "", altOf(), altOf(symText("a"), call))
	text := strings.Repeat("a", 12)
	up := func(to int) impl.Sym { return symIf(exprOf(hereNode(), num(to), pair(impl.ExLess, 0, 1))) }
	// The first T takes less than so many: 11 ways to go on when it takes nothing of 10 bytes, 10 when it takes one, and so on.
	three := func(to int, alts ...impl.Alt) impl.Grammar {
		return grammarOf(ruleOf("S", "", append([]impl.Alt{altOf(call, up(to), call, call)}, alts...)...), rule)
	}
	for to, want := range []int{0, 11, 21, 30, 38, 45, 51, 56, 60, 63, 65, 66} {
		f, ok := checkForest(t, three(to), text[:10])
		if ok != (want > 0 && want <= 60) || ok && len(f.Parts[0].Ways) != want {
			t.Errorf("one Alt, up to %d: %v, %d parts", to, ok, len(f.Parts))
		}
	}
	ten := altOf(symText("aaaaaaaa"), symText("aa"))
	noForest(t, "60 and one", three(8, ten), text[:10])
	noForest(t, "60 and eleven", three(8, altOf(call, call)), text[:10])
	if f, ok := checkForest(t, three(7, ten, ten, ten, ten), text[:10]); !ok || len(f.Parts[0].Ways) != 60 {
		t.Errorf("56 and four: %v, %d parts", ok, len(f.Parts))
	}
	noForest(t, "56 and five", three(7, ten, ten, ten, ten, ten), text[:10])
	noForest(t, "66", three(99), text[:10])
	noForest(t, "many", three(99, slices.Repeat([]impl.Alt{altOf(slices.Repeat([]impl.Sym{call}, 8)...)}, 7)...), text)
	// Ways of several Alts, 13 each, and so many more; of the first part, and of one below it, at its left and behind it.
	pairs := slices.Repeat([]impl.Alt{altOf(call, call)}, 4)
	for more := range 14 {
		alts := append(slices.Clone(pairs), altOf(call, up(more), call))
		f, ok := checkForest(t, grammarOf(ruleOf("S", "", alts...), rule), text)
		if ok != (more <= 8) || ok && len(f.Parts[0].Ways) != 52+more {
			t.Errorf("52 and %d: %v", more, ok)
		}
		for _, first := range [][]impl.Sym{{symCall("W")}, {symCall("E"), symCall("W")}, {symCall("W"), symCall("E")}, {symCall("V")}} {
			below := grammarOf(ruleOf("S", "", altOf(first...)), rule, ruleOf("W", "", alts...), ruleOf("E", "", altOf()), ruleOf("V", "", altOf(symCall("W"), symCall("E"))))
			f, ok := impl.ForestOf(below, text)
			want, wantOk := slowForest(below, text)
			if ok != (more <= 8) || ok != wantOk || fmt.Sprint(f) != fmt.Sprint(want) {
				t.Errorf("52 and %d below %v: %v", more, first, ok)
			}
		}
		// A goal that has too many ways, but is no part, as it is not gone on with.
		beside := grammarOf(ruleOf("S", "", altOf(symCall("W"), symText("b")), altOf(symText("aaaaaaaa"), symCall("T"))), rule, ruleOf("W", "", alts...))
		if f, ok := checkForest(t, beside, text); !ok || len(f.Parts) != 6 {
			t.Errorf("52 and %d beside it: %v, %d parts", more, ok, len(f.Parts))
		}
	}
}

// Rows that come to nothing are many, and are not gone through again and again.
func TestManyRowsThatComeToNothing(t *testing.T) {
	rule := ruleOf("T", "", altOf(), altOf(symText("a"), symCall("T")))
	text := strings.Repeat("a", 12)
	bind := func(last ...impl.Sym) impl.Alt {
		syms := []impl.Sym{}
		for _, name := range strings.Fields("a b c d e f") {
			syms = append(syms, symBound(name, "T"))
		}
		return altOf(append(syms, last...)...)
	}
	never := altOf(append(slices.Repeat([]impl.Sym{symCall("T")}, 7), symText("b"))...)
	g := grammarOf(ruleOf("S", "", append(slices.Repeat([]impl.Alt{never}, 7), altOf(symCall("T")))...), rule)
	f, ok := impl.ForestOf(g, text)
	if !ok || len(f.Parts) != 14 || len(f.Parts[0].Ways) != 1 || f.Parts[0].Ways[0].Alt != 7 {
		t.Errorf("none of seven Alts: %v, %d parts", ok, len(f.Parts))
	}
	// Only the last of all rows takes the text: all that is bound ahead of it is nothing.
	g = grammarOf(ruleOf("S", "", bind(symIf(same(named("f"), num(12))), symText("b")), bind(symCall("T"), symIf(same(named("a"), num(12))))), rule)
	f, ok = impl.ForestOf(g, text)
	if !ok || len(f.Parts[0].Ways) != 1 || f.Parts[0].Ways[0].Alt != 1 || fmt.Sprint(f.Parts[0].Ways[0].Kids) != "[1 2 2 2 2 2 2]" {
		t.Errorf("the last row: %v, %d parts", ok, len(f.Parts))
	}
	eight := altOf(slices.Repeat([]impl.Sym{symCall("T")}, 8)...)
	noForest(t, "50388 ways", grammarOf(ruleOf("S", "", eight), rule), text)
	noForest(t, "eight times as many", grammarOf(ruleOf("S", "", slices.Repeat([]impl.Alt{eight}, 8)...), rule), text)
}

func TestForestsOfTextsAtTheirEdges(t *testing.T) {
	any := ruleOf("Any", "", altOf(), altOf(symText("a")), altOf(symText("aaa")), altOf(symText("aaaaaaaa"), symText("aaaa")))
	g := grammarOf(ruleOf("S", "", altOf(symCall("Any"), symCall("Any")), altOf(symText("aaaaaaaa"), symCall("Any"), symText("a"))), any)
	accepted := 0
	for length := range 20 {
		text := strings.Repeat("a", length)
		_, ok := checkForest(t, g, text)
		if ok != impl.Accepts(g, text) || length > 12 && ok {
			t.Errorf("%d bytes: %v", length, ok)
		}
		accepted += oneOf(ok)
	}
	if accepted < 6 {
		t.Errorf("%d texts are accepted", accepted)
	}
	forestIs(t, "nothing", g, "", "S@0-0 /0 1 1", "Any@0-0 /0")
	forestIs(t, "12 bytes", g, strings.Repeat("a", 12), "S@0-12 /0 1 2 /0 2 3 /1 4", "Any@0-0 /0", "Any@0-12 /3", "Any@12-12 /0", "Any@8-11 /2")
	noForest(t, "13 bytes", g, strings.Repeat("a", 13))
	noForest(t, "many bytes", g, strings.Repeat("a", 100000))
	bytes := grammarOf(ruleOf("S", "", altOf(symSet("a-z")), altOf(symCall("S"), symText("1"))))
	for b := range 256 {
		text := string([]byte{byte(b)})
		if _, ok := checkForest(t, bytes, text); ok != (b >= 'a' && b <= 'z') {
			t.Errorf("the byte %d: %v", b, ok)
		}
	}
	for _, text := range []string{"", "1", "a ", " a", "a1a", "ab", "a12", "A1"} {
		noForest(t, "not accepted", bytes, text)
	}
	forestIs(t, "accepted", bytes, "a11", "S@0-3 /1 1", "S@0-2 /1 2", "S@0-1 /0")
	// To an end that is not that of the text, or of another rule.
	noForest(t, "another end", bothSides(), "aab")
	noForest(t, "another rule", grammarOf(ruleOf("S", "", altOf(symText("a"))), ruleOf("T", "", altOf(symText("b")))), "b")
	forestIs(t, "the first rule", grammarOf(ruleOf("S", "", altOf(symCall("T"))), ruleOf("T", "", altOf(symText("b")))), "b", "S@0-1 /0 1", "T@0-1 /0")
}

func TestWrongGrammarsHaveNoForests(t *testing.T) {
	for what, g := range wrongGrammars() {
		for _, text := range []string{"", "a", "b"} {
			noForest(t, what, g, text)
			for _, told := range []string{"", ".", "-", "1; -"} {
				if impl.ForestOk(g, text, planted(told)) {
					t.Errorf("%s: ForestOk of %s", what, told)
				}
			}
		}
	}
	noForest(t, "31 rules", manyRules(31), "a")
	if f, ok := checkForest(t, manyRules(30), "a"); !ok || len(f.Parts) != 30 {
		t.Errorf("30 rules: %v, %d", ok, len(f.Parts))
	}
	for seed := range 300 {
		next := seeded(seed)
		g := someGrammar(next)
		for range 1 + next(2) {
			spoil(next, &g)
		}
		for _, text := range []string{"", "a", "ab"} {
			if !slowGrammarOk(g) {
				noForest(t, "spoilt", g, text)
			} else {
				checkForest(t, g, text)
			}
		}
	}
}

// copiedForest is the forest in memory of its own.
func copiedForest(f impl.Forest) impl.Forest {
	other := impl.Forest{}
	for _, whole := range f.Parts {
		ways := []impl.Way{}
		for _, way := range whole.Ways {
			ways = append(ways, impl.Way{Alt: way.Alt, Kids: slices.Clone(way.Kids)})
		}
		whole.Args, whole.Ways = slices.Clone(whole.Args), ways
		other.Parts = append(other.Parts, whole)
	}
	return other
}

// refuseForest wants ForestOk to refuse the forest once it is turned, and answers how often that was.
func refuseForest(t *testing.T, what string, g impl.Grammar, text string, f impl.Forest, turn func(f *impl.Forest)) int {
	t.Helper()
	other := copiedForest(f)
	if !impl.ForestOk(g, text, other) {
		t.Fatalf("%s, %q: a copy is refused", what, text)
	}
	turn(&other)
	if fmt.Sprint(other) == fmt.Sprint(f) {
		return 0
	}
	if impl.ForestOk(g, text, other) {
		t.Fatalf("%s, %q: ForestOk of\n%v\nturned into\n%v", what, text, f, other)
	}
	return 1
}

// numbersOf has each number that stands in the forest, to be turned.
func numbersOf(f *impl.Forest) []*int {
	list := []*int{}
	for i := range f.Parts {
		whole := &f.Parts[i]
		list = append(list, &whole.Rule, &whole.From, &whole.To)
		for j := range whole.Args {
			list = append(list, &whole.Args[j])
		}
		for j := range whole.Ways {
			list = append(list, &whole.Ways[j].Alt)
			for k := range whole.Ways[j].Kids {
				list = append(list, &whole.Ways[j].Kids[k])
			}
		}
	}
	return list
}

// spoilForest turns each field of each part and each Way, has one more and one less of each list, and two in another order.
func spoilForest(t *testing.T, what string, g impl.Grammar, text string, f impl.Forest) int {
	t.Helper()
	count := 0
	spoil := func(what2 string, turn func(f *impl.Forest)) {
		t.Helper()
		count += refuseForest(t, what+", "+what2, g, text, f, turn)
	}
	for i := range numbersOf(&f) {
		for _, more := range []int{1, -1, 2, 100, leastInt} {
			spoil("a number", func(f *impl.Forest) { *numbersOf(f)[i] += more })
		}
	}
	spoil("no parts", func(f *impl.Forest) { f.Parts = nil })
	spoil("a part more, like none", func(f *impl.Forest) { f.Parts = append(f.Parts, impl.Part{}) })
	for i, whole := range f.Parts {
		spoil("a part less", func(f *impl.Forest) { f.Parts = slices.Delete(f.Parts, i, i+1) })
		spoil("a part more", func(f *impl.Forest) { f.Parts = append(f.Parts, whole) })
		spoil("a part twice", func(f *impl.Forest) { f.Parts = slices.Insert(f.Parts, i, whole) })
		spoil("nothing of a part", func(f *impl.Forest) { f.Parts[i] = impl.Part{} })
		spoil("no Ways", func(f *impl.Forest) { f.Parts[i].Ways = nil })
		for _, num := range []int{0, 1, 99} {
			spoil("an Arg more", func(f *impl.Forest) { f.Parts[i].Args = append(f.Parts[i].Args, num) })
			spoil("many Args more", func(f *impl.Forest) {
				f.Parts[i].Args = append(f.Parts[i].Args, slices.Repeat([]int{num}, 20)...)
			})
		}
		for j := range whole.Args {
			spoil("an Arg less", func(f *impl.Forest) { f.Parts[i].Args = slices.Delete(f.Parts[i].Args, j, j+1) })
		}
		for other := range i {
			spoil("two parts in another order", func(f *impl.Forest) { f.Parts[i], f.Parts[other] = f.Parts[other], f.Parts[i] })
			spoil("another root", func(f *impl.Forest) { *f = rooted(*f, i) })
			spoil("Ways of another", func(f *impl.Forest) { f.Parts[i].Ways = f.Parts[other].Ways })
		}
		for j, way := range whole.Ways {
			spoil("a Way less", func(f *impl.Forest) { f.Parts[i].Ways = slices.Delete(f.Parts[i].Ways, j, j+1) })
			spoil("a Way more", func(f *impl.Forest) { f.Parts[i].Ways = append(f.Parts[i].Ways, way) })
			spoil("a Way twice", func(f *impl.Forest) { f.Parts[i].Ways = slices.Insert(f.Parts[i].Ways, j, way) })
			for other := range j {
				spoil("two Ways in another order", func(f *impl.Forest) {
					ways := f.Parts[i].Ways
					ways[j], ways[other] = ways[other], ways[j]
				})
			}
			spoil("no Kids", func(f *impl.Forest) { f.Parts[i].Ways[j].Kids = nil })
			for kid := range f.Parts {
				spoil("a Kid more", func(f *impl.Forest) { f.Parts[i].Ways[j].Kids = append(f.Parts[i].Ways[j].Kids, kid) })
			}
			for k := range way.Kids {
				spoil("a Kid less", func(f *impl.Forest) { f.Parts[i].Ways[j].Kids = slices.Delete(f.Parts[i].Ways[j].Kids, k, k+1) })
				for other := range k {
					spoil("two Kids in another order", func(f *impl.Forest) {
						kids := f.Parts[i].Ways[j].Kids
						kids[k], kids[other] = kids[other], kids[k]
					})
				}
			}
		}
	}
	return count
}

func TestForestsThatAreTurnedAreRefused(t *testing.T) {
	s, a := symCall("S"), symText("a")
	six := grammarOf(ruleOf("S", "", altOf(symCall("R", numbers(6)...), symCall("R", append(numbers(5), number(2))...))), ruleOf("R", "a b c d e f", altOf()))
	count := 0
	for _, try := range []struct {
		what string
		g    impl.Grammar
		text string
	}{
		{"both sides", bothSides(), "aaa"}, {"both sides", bothSides(), "aaaa"}, {"a length", lengthGrammar(), "3abc"}, {"operators", climbGrammar(), "1+2^3"},
		{"itself", grammarOf(ruleOf("S", "", altOf(s), altOf(a), altOf(s))), "a"}, {"nothing", grammarOf(ruleOf("S", "", altOf())), ""},
		{"six Params", six, ""}, {"wide", wideGrammar(3), ""}, {"deep", deepGrammar(5), ""},
		{"the same Ways", grammarOf(ruleOf("S", "", altOf(s, s), altOf(s, s), altOf(), altOf())), ""},
	} {
		f, ok := checkForest(t, try.g, try.text)
		if !ok {
			t.Fatalf("%s: no forest", try.what)
		}
		count += spoilForest(t, try.what, try.g, try.text, f)
	}
	if count < 1500 {
		t.Errorf("%d were refused", count)
	}
}

// A forest is of its grammar and its text, and of no other; a list that is empty and none are the same.
func TestForestsOfOthersAreRefused(t *testing.T) {
	grammars := []impl.Grammar{bothSides(), grammarOf(ruleOf("S", "", altOf(symText("a"), symCall("S")), altOf(symText("a")))), grammarOf(ruleOf("S", "", altOf(symCall("S"), symText("a")), altOf(symText("a"))))}
	for i, g := range grammars {
		for length := 1; length < 6; length++ {
			text := strings.Repeat("a", length)
			f, _ := checkForest(t, g, text)
			for j, other := range grammars {
				for wrong := range 8 {
					// Of one byte, and of two at the left and at the right but for their parts, they are all alike.
					want, ok := impl.ForestOf(other, strings.Repeat("a", wrong))
					alike := ok && fmt.Sprint(want) == fmt.Sprint(f)
					if got := impl.ForestOk(other, strings.Repeat("a", wrong), f); got != alike || got != (wrong == length && (i == j || length == 1)) {
						t.Errorf("the forest of %d over %q, by %d over %d bytes: %v", i, text, j, wrong, got)
					}
				}
			}
		}
	}
	g := lengthGrammar()
	f, _ := impl.ForestOf(g, "2ab")
	for i := range f.Parts {
		for _, empty := range [][]int{nil, {}} {
			other := copiedForest(f)
			if len(other.Parts[i].Args) == 0 {
				other.Parts[i].Args = empty
			}
			for j := range other.Parts[i].Ways {
				if len(other.Parts[i].Ways[j].Kids) == 0 {
					other.Parts[i].Ways[j].Kids = empty
				}
			}
			if !impl.ForestOk(g, "2ab", other) {
				t.Errorf("part %d: %v", i, other)
			}
		}
	}
	// Another byte that is taken alike leaves the forest as it is; one that is not, or another number, does not.
	for text, want := range map[string]bool{"2ab": true, "2xy": true, "2zz": true, "3ab": false, "2a1": false, "2a": false, "2abc": false, "1ab": false, "": false} {
		if got := impl.ForestOk(g, text, f); got != want {
			t.Errorf("over %q: %v", text, got)
		}
	}
}

// unfolded has all trees of the part of at most this height; false when there are too many.
func unfolded(f impl.Forest, at, height int) ([]impl.Tree, bool) {
	if height < 1 {
		return nil, true
	}
	trees, whole := []impl.Tree{}, f.Parts[at]
	for _, way := range whole.Ways {
		rows := [][]impl.Tree{{}}
		for _, kid := range way.Kids {
			below, ok := unfolded(f, kid, height-1)
			if !ok || len(below)*len(rows) > 400 {
				return nil, false
			}
			longer := [][]impl.Tree{}
			for _, row := range rows {
				for _, tree := range below {
					longer = append(longer, append(slices.Clone(row), tree))
				}
			}
			rows = longer
		}
		for _, row := range rows {
			trees = append(trees, joined(treeNode(whole.Rule, way.Alt, whole.Args, whole.From, whole.To), row))
		}
	}
	return trees, len(trees) <= 400
}

// By TreeOk alone: the trees of a forest are just those that it takes.
func TestForestsHaveJustTheTreesThatArePutTogether(t *testing.T) {
	t.Parallel()
	a, b, call := symText("a"), symText("b"), symCall("T")
	grammars := lowGrammars(120)
	grammars["the same Ways"] = grammarOf(ruleOf("S", "", altOf(call, b), altOf(call, b), altOf(symCall("S"), call)), ruleOf("T", "", altOf(a), altOf(a), altOf()))
	compared, several := 0, 0
	for what, g := range grammars {
		for _, text := range []string{"", "a", "ab", "aab"} {
			for height := 1; height <= 3; height++ {
				trees, ok := growByHeight(g, text, height)
				if !ok || !runsSmall(g, text, g.Rules[0].Name, nil, 0) {
					break
				}
				want := []string{}
				for _, tree := range trees {
					if node := tree.Nodes[len(tree.Nodes)-1]; node.Rule == 0 && node.From == 0 && node.To == len(text) {
						want = append(want, treePicture(g, tree))
					}
				}
				f, ok := impl.ForestOf(g, text)
				if ok != impl.Accepts(g, text) {
					t.Fatalf("%s, %q: %v", what, text, ok)
				}
				got := []string{}
				if ok {
					below, _ := unfolded(f, 0, height)
					got = strings.Split(pictures(g, below), "\n")[:len(below)]
				}
				slices.Sort(want)
				slices.Sort(got)
				if !slices.Equal(got, want) || impl.CountForest(f, height) != len(want) {
					t.Fatalf("%s, %q, at most %d high:\n%s\nnot\n%s", what, text, height, strings.Join(got, "\n"), strings.Join(want, "\n"))
				}
				compared += oneOf(len(want) > 0)
				several += oneOf(len(want) > 1)
			}
		}
	}
	if compared < 100 || several < 40 {
		t.Errorf("only %d were compared, %d of them with several trees", compared, several)
	}
}

// checkListedOf wants those trees that are listed to be of the forest, and as many as it has, as far as they are asked for; it answers how many there are at most.
func checkListedOf(t *testing.T, g impl.Grammar, text string, f impl.Forest) int {
	t.Helper()
	most := 0
	for height := 1; height <= 8; height++ {
		trees, ok := unfolded(f, 0, height)
		count := impl.CountForest(f, height)
		if !ok || slices.ContainsFunc(trees, func(tree impl.Tree) bool { return len(tree.Nodes) > 59 }) {
			return most
		}
		if len(trees) != count || count != impl.CountTrees(g, text, g.Rules[0].Name, nil, 0, len(text), height) {
			t.Fatalf("%v, %q, at most %d high: %d trees, and %d counted", g, text, height, len(trees), count)
		}
		list := impl.ListTrees(g, text, height, 12)
		if len(list) != min(count, 12) {
			t.Fatalf("%v, %q, at most %d high: %d trees of %d are listed", g, text, height, len(list), count)
		}
		all := map[string]bool{}
		for _, tree := range trees {
			all[treePicture(g, tree)] = true
			if !impl.TreeOk(g, text, tree) {
				t.Fatalf("%v, %q: no tree: %s", g, text, treePicture(g, tree))
			}
		}
		for _, tree := range list {
			if !all[treePicture(g, tree)] {
				t.Fatalf("%v, %q, at most %d high: listed, but not of the forest: %s", g, text, height, treePicture(g, tree))
			}
		}
		if len(all) != count {
			t.Fatalf("%v, %q, at most %d high: of %d trees %d are unlike", g, text, height, count, len(all))
		}
		most = max(most, count)
	}
	return most
}

func TestForestsHaveTheTreesThatAreListed(t *testing.T) {
	t.Parallel()
	several := 0
	for length := 1; length <= 7; length++ {
		text := strings.Repeat("a", length)
		f, _ := impl.ForestOf(bothSides(), text)
		several += oneOf(checkListedOf(t, bothSides(), text, f) > 1)
	}
	for seed := range 250 {
		g := smallGrammar(seeded(seed))
		for _, text := range []string{"", "a", "1b", "ab1"} {
			if f, ok := impl.ForestOf(g, text); ok {
				several += oneOf(checkListedOf(t, g, text, f) > 1)
			}
		}
	}
	if several < 100 {
		t.Errorf("only %d had several trees", several)
	}
}

func TestForestsOfManySeeds(t *testing.T) {
	t.Parallel()
	const seeds = 700
	found, several, circles, great, params := 0, 0, 0, 0, 0
	for seed := range seeds {
		next := seeded(seed + 70000)
		g := smallGrammar(next)
		text := mixedOf("ab1", next, next(5))
		f, ok := checkForest(t, g, text)
		found += oneOf(ok)
		several += oneOf(impl.Ambiguous(f))
		circles += oneOf(impl.Circles(f))
		great += oneOf(impl.CountForest(f, 8) == 1000000)
		params += oneOf(slices.ContainsFunc(f.Parts, func(whole impl.Part) bool { return len(whole.Args) > 0 }))
	}
	if found < seeds/4 || several < seeds/8 || circles < seeds/20 || great < seeds/50 || params < seeds/10 {
		t.Errorf("of %d: %d forests, %d ambiguous, %d with circles, %d with many trees, %d with Args", seeds, found, several, circles, great, params)
	}
}

// Forests of any parts and any Kids, some of which are no places.
func TestPlantedForestsOfManySeeds(t *testing.T) {
	const seeds = 6000
	circles, ambiguous, counted, apart := 0, 0, 0, 0
	for seed := range seeds {
		next := seeded(seed)
		f := impl.Forest{Parts: make([]impl.Part, next(7))}
		for i := range f.Parts {
			for range next(3) + oneOf(next(3) == 0) {
				way := impl.Way{Alt: next(3)}
				for range next(3) {
					kid := next(len(f.Parts))
					if next(2) == 0 && i+1 < len(f.Parts) {
						kid = i + 1 + next(len(f.Parts)-i-1)
					}
					if next(60) == 0 {
						kid = []int{-1, len(f.Parts), leastInt, greatestInt}[next(4)]
					}
					way.Kids = append(way.Kids, kid)
				}
				f.Parts[i].Ways = append(f.Parts[i].Ways, way)
			}
		}
		checkAsked(t, "planted", f)
		circles += oneOf(impl.Circles(f))
		ambiguous += oneOf(impl.Ambiguous(f))
		counted += oneOf(impl.CountForest(f, 8) > 1)
		apart += oneOf(impl.Circles(f) && !impl.Ambiguous(f))
	}
	if circles < seeds/5 || circles > seeds*4/5 || ambiguous < seeds/5 || ambiguous > seeds*4/5 || counted < seeds/10 || apart < seeds/20 {
		t.Errorf("of %d: %d with circles, %d ambiguous, %d with several trees, %d with circles alone", seeds, circles, ambiguous, counted, apart)
	}
}

// What operators bind has one way, in each of its parts.
func TestForestsOfOperatorsAreNeverAmbiguous(t *testing.T) {
	check := func(list []impl.Op, text string) bool {
		t.Helper()
		g, ok := impl.OpsGrammar(list)
		if !ok {
			t.Fatalf("%v is refused", list)
		}
		f, ok := impl.ForestOf(g, text)
		if _, climbs := impl.Climb(list, text); ok != climbs {
			t.Fatalf("%v, %q: there is a forest: %v", list, text, ok)
		}
		if !ok {
			return false
		}
		tree, _ := impl.FirstTree(g, text, "S", nil, 0, len(text))
		if impl.Ambiguous(f) || impl.Circles(f) || len(f.Parts) != len(tree.Nodes) || impl.CountForest(f, 8) != oneOf(impl.HeightOf(tree) <= 8) {
			t.Fatalf("%v, %q: %s", list, text, forestPicture(g, f))
		}
		for _, whole := range f.Parts {
			if len(whole.Ways) != 1 {
				t.Fatalf("%v, %q: %s", list, text, forestPicture(g, f))
			}
		}
		return true
	}
	found := 0
	for _, written := range someLists() {
		list := opsOf(written)
		for _, row := range allRows("+*^-", 5) {
			found += oneOf(check(list, row))
		}
		for _, text := range []string{"", "1", "(1)", "1+2*3^4", "((1+2)*3)^4", "1+1+1+1+1+1", "1^1^1^1^1^1", "((((((1))))))", "(((((1)))))", "1+", "+1", "1 + 1"} {
			check(list, text)
		}
	}
	for seed := range 300 {
		next := seeded(seed)
		list := someOps(next)
		if impl.OpsOk(list) {
			found += oneOf(check(list, someRow(next, list, 11)))
		}
	}
	if found < 300 {
		t.Errorf("only %d forests", found)
	}
	g, _ := impl.OpsGrammar(opsOf("+1 *2"))
	forestIs(t, "a sum", g, "1+2*3", "S@0-5 /0 1", "E0@0-5 /0 2 3", "E1@0-1 /2 4", "E2@2-5 /1 5 6", "A@0-1 /0", "E2@2-3 /2 7", "E3@4-5 /2 8", "A@2-3 /0", "A@4-5 /0")
}

// roomyForest is the forest in memory of its own, with room behind its lists that is filled.
func roomyForest(f impl.Forest) impl.Forest {
	spare := impl.Way{Alt: 77, Kids: []int{77}}
	parts := roomyList(f.Parts, impl.Part{Rule: 77, Args: []int{77}, From: 77, To: 77, Ways: []impl.Way{spare}})
	for i := range parts {
		parts[i].Args, parts[i].Ways = roomyList(parts[i].Args, 77), roomyList(parts[i].Ways, spare)
		for j := range parts[i].Ways {
			parts[i].Ways[j].Kids = roomyList(parts[i].Ways[j].Kids, 77)
		}
	}
	return impl.Forest{Parts: parts}
}

func roomyForestPicture(f impl.Forest) string {
	picture := fmt.Sprint(len(f.Parts), f.Parts[:cap(f.Parts)])
	for _, whole := range f.Parts {
		picture += fmt.Sprint(whole.Args[:cap(whole.Args)], len(whole.Ways), whole.Ways[:cap(whole.Ways)])
		for _, way := range whole.Ways {
			picture += fmt.Sprint(way.Kids[:cap(way.Kids)])
		}
	}
	return picture
}

// checkListsApart wants no list of the forest to share memory with another, nor the room behind it.
func checkListsApart(t *testing.T, what string, f impl.Forest) {
	t.Helper()
	lists := [][]int{}
	for i := range f.Parts {
		lists = append(lists, f.Parts[i].Args)
		for _, way := range f.Parts[i].Ways {
			lists = append(lists, way.Kids)
		}
	}
	for i, list := range lists {
		for _, other := range lists[i+1:] {
			if sharesInts(list, other) {
				t.Fatalf("%s: %v shares memory with %v", what, list, other)
			}
		}
	}
	for i := range f.Parts {
		rest := func() string { return fmt.Sprint(f.Parts[:i], f.Parts[i+1:]) }
		before, room := rest(), f.Parts[i].Ways[:cap(f.Parts[i].Ways)]
		kept := slices.Clone(room)
		for j := range room {
			room[j] = impl.Way{Alt: 77}
		}
		if after := rest(); after != before {
			t.Fatalf("%s: another part's Ways are written over:\n%s\nwere\n%s", what, after, before)
		}
		copy(room, kept)
	}
}

func TestForestsShareNoMemory(t *testing.T) {
	t.Parallel()
	grammars := rightGrammars()
	grammars["both sides"], grammars["wide"], grammars["deep"] = bothSides(), wideGrammar(3), deepGrammar(20)
	for seed := range 100 {
		grammars[fmt.Sprint("seed ", seed)] = smallGrammar(seeded(seed))
	}
	forests := 0
	for what, plain := range grammars {
		for _, text := range []string{"", "aaa", "1ab1", "1+2", "1a"} {
			g := roomyGrammar(plain)
			text = strings.Clone(text)
			before := grammarPicture(g) + text
			f, ok := impl.ForestOf(g, text)
			forests += oneOf(ok)
			checkListsApart(t, what, f)
			roomy := roomyForest(f)
			was := roomyForestPicture(roomy)
			right := impl.ForestOk(g, text, roomy)
			count, circles, ambiguous := impl.CountForest(roomy, 8), impl.Circles(roomy), impl.Ambiguous(roomy)
			if right != ok || count != slowCountForest(f, 8) || circles != slowCircles(f) || ambiguous != slowAmbiguous(f) {
				t.Fatalf("%s, %q: %v, %d, %v, %v", what, text, right, count, circles, ambiguous)
			}
			if after := roomyForestPicture(roomy); after != was {
				t.Fatalf("%s: the forest is changed:\n%s\nwas\n%s", what, after, was)
			}
			if after := grammarPicture(g) + text; after != before {
				t.Fatalf("%s: an argument is changed:\n%s\nwas\n%s", what, after, before)
			}
		}
	}
	if forests < 100 {
		t.Errorf("only %d forests", forests)
	}
}

// What stands in the room behind a list is not of it.
func TestRoomBehindListsOfForestsIsNotLookedAt(t *testing.T) {
	f, _ := impl.ForestOf(bothSides(), "aaaa")
	for i := range f.Parts {
		cut := roomyForest(f)
		cut.Parts = cut.Parts[:i]
		checkAsked(t, "parts behind the list", cut)
		cut = roomyForest(f)
		for j := range cut.Parts[i].Ways {
			cut.Parts[i].Ways = cut.Parts[i].Ways[:j]
			checkAsked(t, "Ways behind the list", cut)
			if impl.ForestOk(bothSides(), "aaaa", cut) {
				t.Errorf("part %d of %d Ways is taken", i, j)
			}
			cut = roomyForest(f)
			if kids := cut.Parts[i].Ways[j].Kids; len(kids) > 0 {
				cut.Parts[i].Ways[j].Kids = kids[:len(kids)-1]
				checkAsked(t, "Kids behind the list", cut)
				if impl.ForestOk(bothSides(), "aaaa", cut) {
					t.Errorf("part %d with a Kid less is taken", i)
				}
			}
		}
	}
}

func TestForestsAnswerTheSameAgain(t *testing.T) {
	g := bothSides()
	first := fmt.Sprint(checkForest(t, g, "aaaaa"))
	for range 100 {
		f, ok := impl.ForestOf(g, "aaaaa")
		if got := fmt.Sprint(f, ok); got != first {
			t.Fatalf("ForestOf answers\n%s\nand then\n%s", first, got)
		}
		if !impl.ForestOk(g, "aaaaa", f) || impl.CountForest(f, 8) != 14 || impl.Circles(f) || !impl.Ambiguous(f) {
			t.Fatal("the forest is another")
		}
		// What is refused leaves nothing behind, and what was answered may be written over.
		impl.ForestOf(rowOfParts(201), "z")
		impl.ForestOf(g, "aab")
		for _, number := range numbersOf(&f) {
			*number = -1
		}
		if impl.ForestOk(g, "aaaaa", f) || impl.CountForest(f, 8) != 0 {
			t.Fatal("what was written over is still taken")
		}
	}
}

// Forests that are far greater than ForestOf makes them are answered, too.
func TestHugeForests(t *testing.T) {
	const count = 200000
	row := impl.Forest{Parts: make([]impl.Part, count)}
	for i := range row.Parts {
		row.Parts[i].Ways = []impl.Way{{Kids: []int{i + 1}}}
	}
	row.Parts[count-1].Ways = []impl.Way{{}}
	if impl.Circles(row) || impl.Ambiguous(row) || impl.CountForest(row, 8) != 0 || impl.ForestOk(bothSides(), "a", row) {
		t.Error("a long row")
	}
	row.Parts[count-1].Ways = []impl.Way{{}, {Kids: []int{count / 2}}}
	if !impl.Circles(row) || !impl.Ambiguous(row) || impl.CountForest(row, 8) != 0 {
		t.Error("a long row with a circle")
	}
	// The other way round: the first part comes last.
	for i := range row.Parts {
		row.Parts[i].Ways = []impl.Way{{Kids: []int{max(0, i-1)}}}
	}
	row.Parts[0].Ways = []impl.Way{{}}
	if impl.Circles(row) || impl.Ambiguous(row) || impl.CountForest(row, 8) != 1 {
		t.Error("a long row back")
	}
	row.Parts[count-1].Ways = append(row.Parts[count-1].Ways, impl.Way{Kids: []int{count - 1}})
	if !impl.Circles(row) || impl.Ambiguous(row) || impl.CountForest(row, 8) != 1 {
		t.Error("a long row back, and a circle that is not come to")
	}
	wide := impl.Forest{Parts: []impl.Part{{Ways: []impl.Way{{Kids: slices.Repeat([]int{1}, count)}}}, {Ways: make([]impl.Way, 2)}}}
	if impl.Circles(wide) || !impl.Ambiguous(wide) || impl.CountForest(wide, 8) != 1000000 {
		t.Error("many Kids")
	}
	wide.Parts[0].Ways[0].Kids[count-1] = 0
	if !impl.Circles(wide) || impl.CountForest(wide, 8) != 0 {
		t.Error("many Kids, the last one itself")
	}
	deep := impl.Part{Rule: greatestInt, Args: slices.Repeat([]int{1}, count), From: leastInt, To: greatestInt, Ways: make([]impl.Way, count)}
	f, _ := impl.ForestOf(bothSides(), "a")
	for _, parts := range [][]impl.Part{{deep}, {f.Parts[0], deep}, slices.Repeat(f.Parts, count)} {
		if impl.ForestOk(bothSides(), "a", impl.Forest{Parts: parts}) {
			t.Errorf("%d parts are taken", len(parts))
		}
	}
}
