package tests

import (
	"fmt"
	"slices"
	"strings"
	"testing"
	"unsafe"

	"loop.example/g00243/impl"
)

// slowNames gathers from all nodes that are come to from the Body, of any surface, right or not.
func slowNames(s impl.Surface, rule int) []string {
	if rule < 0 || rule >= len(s.Rules) {
		return nil
	}
	cameTo, names := map[int]bool{s.Rules[rule].Body: true}, map[string]bool{}
	for before := 0; before < len(cameTo); {
		before = len(cameTo)
		for at, node := range s.Nodes {
			for _, kid := range node.Kids {
				if cameTo[at] {
					cameTo[kid] = true
				}
			}
		}
	}
	for at, node := range s.Nodes {
		if cameTo[at] && node.Bind != "" {
			names[node.Bind] = true
		}
	}
	for _, param := range s.Rules[rule].Params {
		names[param] = true
	}
	list := []string{}
	for name := range names {
		list = append(list, name)
	}
	slices.Sort(list)
	return list
}

// slowRowsOf are the rows of alternatives, or of those below a sign.
func slowRowsOf(s impl.Surface, at int) []int {
	node := s.Nodes[at]
	if node.Kind != impl.SnAlt {
		node = s.Nodes[node.Kids[0]]
	}
	return node.Kids
}

// slowGroups are the places of all groups, in the order in which they are met.
func slowGroups(s impl.Surface) []int {
	todo, groups := []int{}, []int{}
	for _, rule := range s.Rules {
		todo = append(todo, rule.Body)
	}
	for len(todo) > 0 {
		for _, row := range slowRowsOf(s, todo[0]) {
			for _, kid := range s.Nodes[row].Kids {
				if s.Nodes[kid].Kind >= impl.SnAlt {
					todo, groups = append(todo, kid), append(groups, kid)
				}
			}
		}
		todo = todo[1:]
	}
	return groups
}

func slowGroupCall(s impl.Surface, groups []int, at int) impl.Sym {
	known := slowKnownAt(s, at)
	slices.Sort(known)
	call := symCall(fmt.Sprintf("x%d", slices.Index(groups, at)))
	for _, name := range known {
		call.Args = append(call.Args, asked(name))
	}
	return call
}

func slowAlts(s impl.Surface, groups []int, at int) []impl.Alt {
	alts := []impl.Alt{}
	for _, row := range slowRowsOf(s, at) {
		alt := impl.Alt{}
		for _, kid := range s.Nodes[row].Kids {
			node := s.Nodes[kid]
			sym := impl.Sym{Kind: node.Kind, Text: node.Text, Args: node.Args, Bind: node.Bind}
			if node.Kind >= impl.SnAlt {
				sym = slowGroupCall(s, groups, kid)
			}
			alt.Syms = append(alt.Syms, sym)
		}
		alts = append(alts, alt)
	}
	return alts
}

// slowFlatten makes each rule by itself, of what is found by climbing up from its group.
func slowFlatten(s impl.Surface) (impl.Grammar, bool) {
	if !slowSurfaceOk(s) {
		return impl.Grammar{}, false
	}
	g, groups := impl.Grammar{}, slowGroups(s)
	for _, rule := range s.Rules {
		g.Rules = append(g.Rules, impl.Rule{Name: rule.Name, Params: rule.Params, Alts: slowAlts(s, groups, rule.Body)})
	}
	for _, at := range groups {
		call := slowGroupCall(s, groups, at)
		rule := impl.Rule{Name: call.Text, Params: slowKnownAt(s, at)}
		slices.Sort(rule.Params)
		rows, again := slowAlts(s, groups, at), slowAlts(s, groups, at)
		for i := range again {
			again[i].Syms = append(again[i].Syms, call)
		}
		switch s.Nodes[at].Kind {
		case impl.SnAlt:
			rule.Alts = rows
		case impl.SnOpt:
			rule.Alts = append(rows, altOf())
		case impl.SnStar:
			rule.Alts = append([]impl.Alt{altOf()}, again...)
		case impl.SnPlus:
			rule.Alts = append(rows, again...)
		}
		g.Rules = append(g.Rules, rule)
	}
	return g, true
}

// plainPicture tells each field; a list of nothing and no list are told alike.
func plainPicture(g impl.Grammar) string {
	picture := ""
	for _, rule := range g.Rules {
		picture += fmt.Sprintf("%q %q\n", rule.Name, rule.Params)
		for _, alt := range rule.Alts {
			picture += "  alt"
			for _, sym := range alt.Syms {
				picture += fmt.Sprintf(" %d %q %q", sym.Kind, sym.Text, sym.Bind)
				for _, arg := range sym.Args {
					picture += " (" + exprPicture(arg) + ")"
				}
			}
			picture += "\n"
		}
	}
	return picture
}

// slowCall is a rule that is called with these numbers, from this place on.
type slowCall struct {
	rule int
	args string
	from int
}

// slowNodes reads by the nodes, pass by pass: each goes by what the one ahead of it had found.
type slowNodes struct {
	s     impl.Surface
	text  string
	known map[slowCall][]impl.Var
	found map[slowCall][]int
}

type slowState struct {
	at    int
	known []impl.Var
}

func (n *slowNodes) call(rule int, args []int, from int) []int {
	call := slowCall{rule, fmt.Sprint(args), from}
	known := []impl.Var{}
	for i, param := range n.s.Rules[rule].Params {
		known = append(known, impl.Var{Name: param, Num: args[i]})
	}
	n.known[call] = known
	return n.found[call]
}

func (n *slowNodes) step(at int, state slowState) []slowState {
	node, rest := n.s.Nodes[at], n.text[state.at:]
	next := []slowState{}
	switch node.Kind {
	case impl.SnText:
		if strings.HasPrefix(rest, node.Text) {
			next = append(next, slowState{state.at + len(node.Text), state.known})
		}
	case impl.SnSet:
		if rest != "" && strings.Contains(slowSetBytes(node.Text), rest[:1]) {
			next = append(next, slowState{state.at + 1, state.known})
		}
	case impl.SnIf:
		if num, ok := slowEval(node.Args[0], state.known, state.at); ok && num != 0 {
			next = append(next, state)
		}
	case impl.SnCall:
		args, ok := slowArgs(impl.Sym{Args: node.Args}, state.known, state.at)
		if !ok {
			break
		}
		rule := slices.IndexFunc(n.s.Rules, func(rule impl.SRule) bool { return rule.Name == node.Text })
		for _, end := range n.call(rule, args, state.at) {
			known := state.known
			if node.Bind != "" {
				known = append(slices.Clone(known), impl.Var{Name: node.Bind, Num: slowBindNum(n.text[state.at:end])})
			}
			next = append(next, slowState{end, known})
		}
	default:
		for _, end := range n.group(at, state) {
			next = append(next, slowState{end, state.known})
		}
	}
	return next
}

func (n *slowNodes) row(at int, state slowState) []int {
	states := []slowState{state}
	for _, kid := range n.s.Nodes[at].Kids {
		next, there := []slowState{}, map[string]bool{}
		for _, state := range states {
			for _, one := range n.step(kid, state) {
				if key := fmt.Sprint(one); !there[key] {
					there[key] = true
					next = append(next, one)
				}
			}
		}
		states = next
	}
	ends := []int{}
	for _, state := range states {
		ends = append(ends, state.at)
	}
	return ends
}

func united(a, b []int) []int {
	all := slices.Concat(a, b)
	slices.Sort(all)
	return slices.Compact(all)
}

func (n *slowNodes) group(at int, state slowState) []int {
	node, ends := n.s.Nodes[at], []int{}
	if node.Kind == impl.SnAlt {
		for _, row := range node.Kids {
			ends = united(ends, n.row(row, state))
		}
		return ends
	}
	inner := node.Kids[0]
	once := n.group(inner, state)
	if node.Kind == impl.SnOpt {
		return united(once, []int{state.at})
	}
	ends = once
	for before := -1; before < len(ends); {
		before = len(ends)
		for _, end := range ends {
			ends = united(ends, n.group(inner, slowState{end, state.known}))
		}
	}
	if node.Kind == impl.SnStar {
		ends = united(ends, []int{state.at})
	}
	return ends
}

func (n *slowNodes) pass() bool {
	found := map[slowCall][]int{}
	calls := len(n.known)
	for _, call := range sortedCalls(n.known) {
		found[call] = n.group(n.s.Rules[call.rule].Body, slowState{call.from, n.known[call]})
	}
	changed := len(n.known) > calls || fmt.Sprint(found) != fmt.Sprint(n.found)
	n.found = found
	return changed
}

func sortedCalls(known map[slowCall][]impl.Var) []slowCall {
	calls := []slowCall{}
	for call := range known {
		calls = append(calls, call)
	}
	slices.SortFunc(calls, func(a, b slowCall) int { return strings.Compare(fmt.Sprint(a), fmt.Sprint(b)) })
	return calls
}

func slowNodeEnds(s impl.Surface, text string, from int) []int {
	n := &slowNodes{s, text, map[slowCall][]impl.Var{}, map[slowCall][]int{}}
	n.call(0, nil, from)
	for n.pass() {
	}
	return n.call(0, nil, from)
}

// checkMeaning: the promise. What is read by the nodes is what the plain rules read, and what the slow reading does.
func checkMeaning(t *testing.T, what string, s impl.Surface, text string, from int) []int {
	t.Helper()
	got := impl.SurfaceEnds(s, text, from)
	g, right := slowFlatten(s)
	want := []int{}
	if _, runs := slowRun(g, text, firstName(g), nil, from); right && runs {
		want = slowNodeEnds(s, text, from)
	}
	if !slices.Equal(got, want) {
		t.Fatalf("%s: SurfaceEnds = %v, not %v, over %q from %d of\n%s", what, got, want, text, from, slowShowSurface(s))
	}
	checkPlainEnds(t, what, s, text, from)
	return got
}

func firstName(g impl.Grammar) string {
	if len(g.Rules) == 0 {
		return ""
	}
	return g.Rules[0].Name
}

// checkPlainEnds is for what is too much to be read slowly.
func checkPlainEnds(t *testing.T, what string, s impl.Surface, text string, from int) []int {
	t.Helper()
	got := impl.SurfaceEnds(s, text, from)
	g, _ := impl.Flatten(s)
	if ends := impl.EndsOf(g, text, firstName(g), nil, from); !slices.Equal(got, ends) {
		t.Fatalf("%s: SurfaceEnds = %v, and EndsOf its plain rules %v, over %q from %d", what, got, ends, text, from)
	}
	return got
}

func checkFlat(t *testing.T, what string, s impl.Surface) impl.Grammar {
	t.Helper()
	got, ok := impl.Flatten(s)
	want, right := slowFlatten(s)
	if ok != right || plainPicture(got) != plainPicture(want) || ok != impl.GrammarOk(got) {
		t.Fatalf("%s: Flatten = %v\n%snot %v\n%s", what, ok, plainPicture(got), right, plainPicture(want))
	}
	return got
}

// checkNames holds for any surface, and any rule, there or not.
func checkNames(t *testing.T, what string, s impl.Surface) {
	t.Helper()
	for rule := -2; rule < len(s.Rules)+2; rule++ {
		if got, want := impl.KnownAt(s, rule), slowNames(s, rule); !slices.Equal(got, want) {
			t.Fatalf("%s: KnownAt(%d) = %q, not %q, of\n%s", what, rule, got, want, surfacePicture(s))
		}
	}
}

// checkWhole goes over all texts of up to three letters, and all places in and around them.
func checkWhole(t *testing.T, what string, s impl.Surface) {
	t.Helper()
	takeSurface(t, what, s)
	checkFlat(t, what, s)
	checkNames(t, what, s)
	textsOf("ab1", 3, func(text string) {
		for from := -1; from <= len(text)+1; from++ {
			checkMeaning(t, what, s, text, from)
		}
	})
}

// refuseWhole: of what is not right there is no plain grammar and no end, but still what its nodes bind.
func refuseWhole(t *testing.T, what string, s impl.Surface) {
	t.Helper()
	refuseSurface(t, what, s)
	checkFlat(t, what, s)
	for _, text := range []string{"", "a", "1", "aab"} {
		for from := -1; from <= len(text)+1; from++ {
			if ends := impl.SurfaceEnds(s, text, from); len(ends) > 0 {
				t.Fatalf("%s: SurfaceEnds(%q, %d) = %v", what, text, from, ends)
			}
		}
	}
}

func surfaceIn(t *testing.T, text string) impl.Surface {
	t.Helper()
	s, ok := impl.ReadSurface(text)
	if !ok {
		t.Fatalf("ReadSurface(%q) is false", text)
	}
	return s
}

// endsAre has the ends from 0 on first, then those from 1 on, and so forth, as fmt tells them.
func endsAre(t *testing.T, grammar, text string, want ...string) {
	t.Helper()
	s := surfaceIn(t, grammar)
	for from := range want {
		if got := fmt.Sprint(checkMeaning(t, grammar, s, text, from)); got != want[from] {
			t.Errorf("%q over %q from %d: %s, not %s", grammar, text, from, got, want[from])
		}
	}
}

// All ends here are worked out by hand.
func TestEndsWithoutAGroupByHand(t *testing.T) {
	endsAre(t, `S -> ;`, "ab", "[0]", "[1]", "[2]", "[]")
	endsAre(t, `S -> "a" | "ab" | ;`, "abab", "[0 1 2]", "[1]", "[2 3 4]", "[3]", "[4]", "[]")
	endsAre(t, `S -> T T ; T -> "a" | "b" T ;`, "abab", "[3]", "[]", "[]", "[]", "[]")
	endsAre(t, `S -> T T ; T -> "a" | "b" T ;`, "abba", "[4]", "[]", "[]", "[]", "[]")
	endsAre(t, `S -> n:D { n < 5 } [ab] ; D -> [0-9] ;`, "1a9a", "[2]", "[]", "[]", "[]", "[]")
}

func TestEndsOfOneGroupByHand(t *testing.T) {
	endsAre(t, `S -> ( "a" | "ab" ) ;`, "abab", "[1 2]", "[]", "[3 4]", "[]", "[]", "[]")
	endsAre(t, `S -> ( "a" | "ab" )? ;`, "abab", "[0 1 2]", "[1]", "[2 3 4]", "[3]", "[4]", "[]")
	endsAre(t, `S -> ( "a" | "ab" )* ;`, "abab", "[0 1 2 3 4]", "[1]", "[2 3 4]", "[3]", "[4]", "[]")
	endsAre(t, `S -> ( "a" | "ab" )+ ;`, "abab", "[1 2 3 4]", "[]", "[3 4]", "[]", "[]", "[]")
	endsAre(t, `S -> ( "aa" ) ;`, "aaaaa", "[2]", "[3]", "[4]", "[5]", "[]", "[]")
	endsAre(t, `S -> ( "aa" )? ;`, "aaaaa", "[0 2]", "[1 3]", "[2 4]", "[3 5]", "[4]", "[5]")
	endsAre(t, `S -> ( "aa" )* ;`, "aaaaa", "[0 2 4]", "[1 3 5]", "[2 4]", "[3 5]", "[4]", "[5]")
	endsAre(t, `S -> ( "aa" )+ ;`, "aaaaa", "[2 4]", "[3 5]", "[4]", "[5]", "[]", "[]")
	endsAre(t, `S -> "b" ( "a" )* "b" ;`, "baab", "[4]", "[]", "[]", "[]")
	endsAre(t, `S -> "b" ( "a" ) "b" ;`, "baab", "[]")
	endsAre(t, `S -> "b" ( "a" )+ "b" ;`, "bbab", "[]", "[4]")
	endsAre(t, `S -> "b" ( "a" )? "b" ;`, "bbab", "[2]", "[4]")
}

func TestEndsOfSeveralGroupsByHand(t *testing.T) {
	endsAre(t, `S -> ( "a" )* ( "b" )+ ;`, "aabb", "[3 4]", "[3 4]", "[3 4]", "[4]", "[]")
	endsAre(t, `S -> ( "a" )? ( "a" )? ;`, "aaa", "[0 1 2]", "[1 2 3]", "[2 3]", "[3]")
	endsAre(t, `S -> ( "a" | ) ( "a" | "b" ) ;`, "aab", "[1 2]", "[2 3]", "[3]", "[]")
	endsAre(t, `S -> ( "a" )+ | ( "b" )+ ;`, "aabb", "[1 2]", "[2]", "[3 4]", "[4]", "[]")
	endsAre(t, `S -> ( "a" ( "b" )* "c" )+ ;`, "acabbcab", "[2 6]", "[]", "[6]")
	endsAre(t, `S -> ( ( "a" )+ ( "b" )? )* ;`, "aabba", "[0 1 2 3]", "[1 2 3]", "[2]", "[3]", "[4 5]", "[5]")
	endsAre(t, `S -> ( ( "a" | "b" ) "c" )? ;`, "acbc", "[0 2]", "[1]", "[2 4]", "[3]", "[4]")
	endsAre(t, `S -> ( ( ( "a" ) )+ "b" | "c" )* ;`, "aabcab", "[0 3 4 6]", "[1 3 4 6]", "[2]", "[3 4 6]")
}

func TestEndsOfRowsOfNothingByHand(t *testing.T) {
	for _, rows := range []string{`"a" |`, `| "a"`, `"a" | | "a"`} {
		for sign, want := range map[string]string{"": "[0 1]", "?": "[0 1]", "*": "[0 1 2]", "+": "[0 1 2]"} {
			endsAre(t, "S -> ( "+rows+" )"+sign+" ;", "aab", want)
		}
	}
	for _, sign := range []string{"", "?", "*", "+"} {
		endsAre(t, "S -> ( )"+sign+" ;", "aa", "[0]", "[1]", "[2]", "[]")
		endsAre(t, "S -> ( | | )"+sign+" ;", "aa", "[0]", "[1]", "[2]", "[]")
		endsAre(t, "S -> ( ( )"+sign+" )* ;", "aa", "[0]", "[1]", "[2]", "[]")
		endsAre(t, "S -> ( ( )"+sign+" )+ \"a\" ;", "aa", "[1]", "[2]", "[]", "[]")
		endsAre(t, "S -> ( { @ < 2 } )"+sign+" \"a\" ;", "aaaa", "[1]", "[2]")
	}
	endsAre(t, `S -> ( { @ < 2 } )+ "a" ;`, "aaaa", "[1]", "[2]", "[]", "[]")
	endsAre(t, `S -> ( { @ < 2 } )* "a" ;`, "aaaa", "[1]", "[2]", "[3]", "[4]")
	endsAre(t, `S -> ( ( "a" )? )* ;`, "aab", "[0 1 2]", "[1 2]", "[2]", "[3]")
	endsAre(t, `S -> ( ( "a" )* )+ ;`, "aab", "[0 1 2]", "[1 2]", "[2]", "[3]")
	endsAre(t, `S -> ( ( "a" )+ )? ;`, "aab", "[0 1 2]", "[1 2]", "[2]", "[3]")
	endsAre(t, `S -> ( ( "a" )+ )+ ;`, "aab", "[1 2]", "[2]", "[]", "[]")
}

func TestEndsByWhatIsKnownByHand(t *testing.T) {
	endsAre(t, `S -> T(2) ; T(n) -> ( "a" { @ < n + 1 } )* ;`, "aaaa", "[0 1 2]", "[1 2]", "[2]", "[3]")
	endsAre(t, `S -> T(2) T(3) ; T(n) -> ( "a" { @ < n + 1 } )+ ;`, "aaaa", "[2 3]", "[3]", "[]")
	endsAre(t, `S -> n:D ( "a" { @ < n } )* ; D -> [0-9] ;`, "3aaaa", "[1 2]", "[]")
	endsAre(t, `S -> n:D ( "a" )* { @ = n } ; D -> [0-9] ;`, "3aaaa", "[3]", "[]")
	endsAre(t, `S -> n:D ( k:D ( { n = k } "a" )+ )* ; D -> [0-9] ;`, "22aa3a", "[1 3 4]", "[2]")
	endsAre(t, `S -> n:D ( k:D ( { n = k } "a" )+ )* ; D -> [0-9] ;`, "22aa2a", "[1 3 4 6]", "[2]")
	endsAre(t, `S -> ( k:D { k < 5 } "a" )* ; D -> [0-9] ;`, "1a7a", "[0 2]", "[1]", "[2]")
	endsAre(t, `S -> ( k:D { k < 5 } "a" )* ; D -> [0-9] ;`, "1a2a", "[0 2 4]", "[1]", "[2 4]")
	// The same name, bound in one row, in the next, and behind the group: each has its own number.
	endsAre(t, `S -> ( k:D "a" { k = 1 } | k:D "b" { k = 2 } )? k:D { k = 3 } ; D -> [0-9] ;`, "1a3", "[3]", "[]", "[3]")
	endsAre(t, `S -> ( k:D "a" { k = 1 } | k:D "b" { k = 2 } )? k:D { k = 3 } ; D -> [0-9] ;`, "2b3", "[3]")
	endsAre(t, `S -> ( k:D "a" { k = 1 } | k:D "b" { k = 2 } )? k:D { k = 3 } ; D -> [0-9] ;`, "2a3", "[]")
	// What is taken tells how much is to come: of a number it is the number, of another text its length.
	endsAre(t, `S -> ( n:D T(n) )+ ; T(n) -> ( { 0 < n } "a" T(n - 1) )? { n = 0 } | { 0 < n } "a" T(n - 1) ; D -> [0-9] ;`, "2aa1a0", "[3 5 6]")
	endsAre(t, `S -> n:A ( "b" { n = 2 } )+ ; A -> ( "a" )* ;`, "aabbb", "[3 4 5]", "[]", "[]")
	// Ways that meet with other numbers go on each by its own.
	endsAre(t, `S -> n:A ( "a" )* { n = 2 } "b" ; A -> ( "a" )* ;`, "aaab", "[4]", "[4]", "[]")
	endsAre(t, `S -> n:A ( "a" )* ( { n = 2 } "b" ) ; A -> ( "a" )* ;`, "aaab", "[4]", "[4]", "[]")
	endsAre(t, `S -> N(0) | N(1) | N(2) ; N(n) -> ( { n = 1 } "a" )+ ;`, "aab", "[1 2]", "[2]", "[]")
	// Six names around the innermost group, told in another order than they are bound.
	endsAre(t, `S -> f:D b:D ( c:D a:D ( e:D d:D ( { f + b + c = a + e - d } "a" )? )+ )* ; D -> [0-9] ;`, "123510a", "[2 6 7]")
	endsAre(t, `S -> f:D b:D ( c:D a:D ( e:D d:D ( { f + b + c = a + e - d } "a" )? )+ )* ; D -> [0-9] ;`, "123711a", "[2 6]")
	// A name that is known around a group is known there with its own number each time.
	endsAre(t, `S -> ( n:D ( "a" { n < @ } )* )* ; D -> [0-9] ;`, "0a9a", "[0 1 2 3]")
	endsAre(t, `S -> ( n:D ( "a" { n < @ } | "b" )* )* ; D -> [0-9] ;`, "9b0ab", "[0 1 2 3 4 5]")
}

func TestEndsOfGroupsThatCallTheirRuleByHand(t *testing.T) {
	endsAre(t, `S -> ( "a" S )? ;`, "aaa", "[0 1 2 3]", "[1 2 3]", "[2 3]", "[3]")
	endsAre(t, `S -> ( "a" S ) | "b" ;`, "aab", "[3]", "[3]", "[3]", "[]")
	endsAre(t, `S -> ( "a" S )+ | "b" ;`, "aabb", "[3]", "[3]", "[3]", "[4]", "[]")
	endsAre(t, `S -> ( "a" S )* "b" ;`, "aabb", "[]", "[4]", "[3]", "[4]", "[]")
	endsAre(t, `S -> S ( "a" )? "b" | ;`, "babb", "[0 1 3 4]", "[1 3 4]", "[2 3 4]", "[3 4]", "[4]")
	endsAre(t, `S -> ( S "a" | ) ;`, "aab", "[0 1 2]", "[1 2]", "[2]", "[3]")
	endsAre(t, `S -> ( S )* "a" | ;`, "aaa", "[0 1 2 3]", "[1 2 3]", "[2 3]", "[3]")
	endsAre(t, `S -> ( T )+ ; T -> ( S )? "a" | S ;`, "aab", "[1 2]", "[2]", "[]", "[]")
	endsAre(t, `S -> ( S ) ;`, "aa", "[]", "[]", "[]")
	endsAre(t, `S -> ( S )? ;`, "aa", "[0]", "[1]", "[2]")
	endsAre(t, `S -> ( S )* ;`, "aa", "[0]", "[1]", "[2]")
	endsAre(t, `S -> ( S )+ ;`, "aa", "[]", "[]", "[]")
	endsAre(t, `S -> ( S | "a" )+ ;`, "aa", "[1 2]", "[2]", "[]")
	endsAre(t, `S -> ( T )* ; T -> ( S )* ;`, "aa", "[0]", "[1]", "[2]")
	endsAre(t, `S -> ( T )+ ; T -> ( S )+ | ( ( )* )+ ;`, "aa", "[0]", "[1]", "[2]")
	endsAre(t, `S -> "a" ( S "b" )* ;`, "aaabb", "[1 5]", "[2 4]", "[3]")
	// Operators that bind from the left, by a number that each level hands on.
	endsAre(t, `S -> E(0) ; E(p) -> ( { p < 1 } E(0) "+" E(1) | { p < 2 } E(1) "*" E(2) | [0-9] ) ;`, "1+2*3", "[1 3 5]", "[]", "[3 5]", "[]", "[5]")
}

func TestEachKindOfGroup(t *testing.T) {
	t.Parallel()
	bodies := [][]thing{
		{aRow()}, {aRow(aText("a"))}, {aRow(aText("a")), aRow(aText("ab"))}, {aRow(), aRow(aText("a")), aRow(aText("b"))},
		{aRow(aText("a")), aRow(), aRow(aSet("ab"))}, {aRow(aText("a")), aRow(aText("b")), aRow()}, {aRow(aText("a"), aText("a"))},
		{aRow(aCall("S"))}, {aRow(aText("a"), aCall("S"))}, {aRow(aCall("S"), aText("a")), aRow()}, {aRow(aBind("k", "D"), anIf(same(named("k"), num(1))), aText("a"))},
	}
	for _, kind := range groupKinds() {
		for _, rows := range bodies {
			group := signed(kind, rows...)
			what := fmt.Sprint("kind ", kind)
			checkWhole(t, what+" alone", oneBody(aRow(group)))
			checkWhole(t, what+" between", oneBody(aRow(aText("a"), group, aText("b"))))
			checkWhole(t, what+" in one of two rows", oneBody(aRow(aText("b")), aRow(group, group)))
			checkWhole(t, what+" in another rule", helped(aRule("S", "", aRow(aCall("T"))), aRule("T", "", aRow(group), aRow(aCall("T"), aText("1")))))
		}
	}
}

func TestEachKindOfGroupInEach(t *testing.T) {
	t.Parallel()
	for _, outer := range groupKinds() {
		for _, inner := range groupKinds() {
			what := fmt.Sprintf("%d in %d", inner, outer)
			checkWhole(t, what, oneBody(aRow(signed(outer, aRow(signed(inner, aRow(aText("a"))))))))
			checkWhole(t, what+", with more", oneBody(aRow(signed(outer, aRow(aText("b"), signed(inner, aRow(aText("a")), aRow()), aText("1")), aRow(signed(inner, aRow(aText("b"))))))))
			checkWhole(t, what+", one behind the other", oneBody(aRow(signed(outer, aRow(aText("a"))), signed(inner, aRow(aText("a")), aRow(aText("b"))))))
			checkWhole(t, what+", with what is bound", oneBody(aRow(aBind("n", "D"), signed(outer, aRow(aBind("k", "D"), signed(inner, aRow(anIf(same(named("n"), named("k"))), aText("a")), aRow(aText("b"))))))))
			checkWhole(t, what+", of its own rule", oneBody(aRow(signed(outer, aRow(aText("a"), signed(inner, aRow(aCall("S"))))), aText("1")), aRow()))
		}
	}
}

func TestRightSurfacesMeanWhatTheirPlainRulesDo(t *testing.T) {
	for what, s := range rightSurfaces() {
		checkWhole(t, what, s)
	}
	checkWhole(t, "all kinds", allKinds())
	// Nodes in another order are met in the order of rules, rows and things all the same.
	for seed := range 30 {
		for what, s := range rightSurfaces() {
			mixed := mixedUp(seeded(seed), s)
			if got, want := plainPicture(checkFlat(t, what, mixed)), plainPicture(checkFlat(t, what, s)); got != want {
				t.Fatalf("%s: mixed up it is flattened as\n%snot as\n%s", what, got, want)
			}
			checkNames(t, what, mixed)
			checkMeaning(t, what, mixed, "a1b", seed%4)
		}
	}
}

// All rules here are worked out by hand.
func TestPlainRulesByHand(t *testing.T) {
	flattensAs(t, `S -> T ; T -> "a" | S ;`, "S() | 3:T()", "T() | 1:a() | 3:S()")
	flattensAs(t, `S -> ( ) ;`, "S() | 3:x0()", "x0() |")
	flattensAs(t, `S -> ( )? ;`, "S() | 3:x0()", "x0() | |")
	flattensAs(t, `S -> ( )* ;`, "S() | 3:x0()", "x0() | | 3:x0()")
	flattensAs(t, `S -> ( )+ ;`, "S() | 3:x0()", "x0() | | 3:x0()")
	flattensAs(t, `S -> ( | "a" | )? ;`, "S() | 3:x0()", "x0() | | 1:a() | |")
	flattensAs(t, `S -> ( | "a" | )* ;`, "S() | 3:x0()", "x0() | | 3:x0() | 1:a() 3:x0() | 3:x0()")
	flattensAs(t, `S -> ( | "a" | )+ ;`, "S() | 3:x0()", "x0() | | 1:a() | | 3:x0() | 1:a() 3:x0() | 3:x0()")
	// Those of all rules come first, then those in them, then those in these.
	flattensAs(t, `S -> ( ( "a" )* )+ "s" ( ( "b" ) )? ; T -> ( ( ( "c" )? ) ) | ( "d" ) ;`,
		"S() | 3:x0() 1:s() 3:x1()", "T() | 3:x2() | 3:x3()",
		"x0() | 3:x4() | 3:x4() 3:x0()", "x1() | 3:x5() |", "x2() | 3:x6()", "x3() | 1:d()",
		"x4() | | 1:a() 3:x4()", "x5() | 1:b()", "x6() | 3:x7()", "x7() | 1:c() |")
	// Rows of a group in their order, with groups of their own.
	flattensAs(t, `S -> ( ( "a" ) ( "b" ) | ( "c" ) | "d" )* ( "e" ) ;`,
		"S() | 3:x0() 3:x1()",
		"x0() | | 3:x2() 3:x3() 3:x0() | 3:x4() 3:x0() | 1:d() 3:x0()", "x1() | 1:e()",
		"x2() | 1:a()", "x3() | 1:b()", "x4() | 1:c()")
	// A group knows what was bound ahead of it in its row, and in the rows around it, but nothing of other rows.
	flattensAs(t, `S -> ; R(b,d) -> ( ) c:D ( a:D ( { a } | e:D ( ) )? ( ) | ( ) )+ ( ) | ( ) ; D -> [0-9] ;`,
		"S() |", "R(b,d) | 3:x0(b,d) 3c:D() 3:x1(b,c,d) 3:x2(b,c,d) | 3:x3(b,d)", "D() | 2:0-9()",
		"x0(b,d) |",
		"x1(b,c,d) | 3a:D() 3:x4(a,b,c,d) 3:x5(a,b,c,d) | 3:x6(b,c,d) | 3a:D() 3:x4(a,b,c,d) 3:x5(a,b,c,d) 3:x1(b,c,d) | 3:x6(b,c,d) 3:x1(b,c,d)",
		"x2(b,c,d) |", "x3(b,d) |",
		"x4(a,b,c,d) | 4:(a) | 3e:D() 3:x7(a,b,c,d,e) |", "x5(a,b,c,d) |", "x6(b,c,d) |", "x7(a,b,c,d,e) |")
	// What is bound later in the row is not known to a group ahead of it, nor what another row of the group binds.
	flattensAs(t, `S -> ( k:D | ( ) )* k:D ( { k } )? ; D -> [0-9] ;`,
		"S() | 3:x0() 3k:D() 3:x1(k)", "D() | 2:0-9()",
		"x0() | | 3k:D() 3:x0() | 3:x2() 3:x0()", "x1(k) | 4:(k) |", "x2() |")
	flattensAs(t, `S -> zz:D z:D a:N(z + zz) ( N(a) ) ; N(n) -> ; D -> ;`,
		"S() | 3zz:D() 3z:D() 3a:N((z + zz)) 3:x0(a,z,zz)", "N(n) |", "D() |", "x0(a,z,zz) | 3:N(a)")
	names := []string{"S() |"}
	for i := range 12 {
		names[0] += fmt.Sprintf(" 3:x%d()", i) + strings.Repeat(" |", oneOf(i == 5))
		names = append(names, fmt.Sprintf("x%d() |", i))
	}
	flattensAs(t, "S -> ( ) ( ) ( ) ( ) ( ) ( ) | ( ) ( ) ( ) ( ) ( ) ( ) ;", names...)
}

func knownAre(t *testing.T, text string, want ...string) {
	t.Helper()
	s := surfaceIn(t, text+" D -> [0-9] ;")
	checkNames(t, text, s)
	for rule := range want {
		if got := strings.Join(impl.KnownAt(s, rule), " "); got != want[rule] {
			t.Errorf("%q: KnownAt(%d) = %q, not %q", text, rule, got, want[rule])
		}
	}
}

func TestKnownByHand(t *testing.T) {
	knownAre(t, `S -> "a" | ( D )* ;`, "", "", "")
	knownAre(t, `S -> ; R(a) -> ; T(b,zz) -> { b } ;`, "", "a", "b zz", "")
	knownAre(t, `S -> b:D ;`, "b", "")
	knownAre(t, `S -> b:D | ; R -> ; T -> a:D ;`, "b", "", "a", "")
	knownAre(t, `S -> ; R(b) -> c:D a:D ;`, "", "a b c", "")
	knownAre(t, `S -> z:D y:D x:D ; R(m) -> zz:D z:D ab:D b:D a:D ;`, "x y z", "a ab b m z zz", "")
	knownAre(t, `S -> ( b:D )* ( ( a:D )+ | ( ( c:D )? ) ) ;`, "a b c")
	knownAre(t, `S -> ; R(n) -> ( b:D ( a:D ( c:D ( d:D ( e:D )* )+ )? ) ) ;`, "", "a b c d e n", "")
	knownAre(t, `S -> b:D | b:D | a:D b:D | ( b:D )* ( b:D | b:D ) ;`, "a b")
	knownAre(t, `S -> ; R(a) -> b:D | ( b:D ) ; T(a,b) -> { a } ;`, "", "a b", "a b")
	// More than may be known at once: they are bound in different rows.
	knownAre(t, `S -> a:D b:D c:D d:D e:D f:D | g:D h:D i:D j:D k:D l:D | ( m:D ) ( n:D )* ;`, "a b c d e f g h i j k l m n")
	s := surfaceIn(t, `S -> b:D a:D ; D -> [0-9] ;`)
	for _, rule := range []int{leastInt, -3, -1, 2, 3, 7, greatestInt} {
		if got := impl.KnownAt(s, rule); len(got) > 0 {
			t.Errorf("KnownAt(%d) = %q", rule, got)
		}
	}
	if got := impl.KnownAt(impl.Surface{}, 0); len(got) > 0 {
		t.Errorf("KnownAt of nothing = %q", got)
	}
}

// What is not right has Params, nodes and names all the same, whatever its Kids are.
func TestKnownOfWrongSurfaces(t *testing.T) {
	bind := func(name string, kids ...int) impl.SNode {
		return impl.SNode{Kind: impl.SnCall, Text: "S", Bind: name, Kids: kids}
	}
	over := func(kind int, kids ...int) impl.SNode { return impl.SNode{Kind: kind, Kids: kids} }
	whole := func(body int, params []string, nodes ...impl.SNode) impl.Surface {
		return impl.Surface{Nodes: nodes, Rules: []impl.SRule{{Name: "S", Params: params, Body: body}}}
	}
	for want, s := range map[string]impl.Surface{
		"a b c":   whole(0, []string{"c", "a", "b", "a"}),
		"A b":     whole(-1, []string{"b", "A"}, bind("c")),
		"e":       whole(1, []string{"e"}, bind("c")),
		"d x":     whole(0, []string{"x"}, bind("d")),
		"a b d":   whole(2, nil, bind("b"), bind("a"), over(impl.SnRow, 1, 0, 0, 3), bind("d"), bind("e")),
		"a b k":   whole(0, nil, bind("a", 1, -1, 99), bind("b", 2), bind("k", 0)),
		"o":       whole(0, nil, bind("o", 0)),
		"p zzzzz": whole(1, []string{"p"}, impl.SNode{Kind: -7, Bind: "zzzzz"}, over(99, leastInt, 0, greatestInt)),
	} {
		checkNames(t, want, s)
		if got := strings.Join(impl.KnownAt(s, 0), " "); got != want {
			t.Errorf("KnownAt = %q, not %q, of\n%s", got, want, surfacePicture(s))
		}
	}
	twice := oneBody(aRow(aBind("b", "D"), aBind("b", "D")), aRow(aBind("a", "T")))
	refuseWhole(t, "bound twice", twice)
	if got := strings.Join(impl.KnownAt(twice, 0), " "); got != "a b" {
		t.Errorf("KnownAt of what is bound twice = %q", got)
	}
}

func TestAsManyPlainRulesAsThereMayBe(t *testing.T) {
	for rules := 1; rules <= 8; rules++ {
		for groups := 28 - rules; groups <= 32-rules; groups++ {
			s, what := manyGroups(rules, groups), fmt.Sprintf("%d rules and %d groups", rules, groups)
			if rules+groups > 30 {
				refuseWhole(t, what, s)
				continue
			}
			g := checkFlat(t, what, s)
			last := g.Rules[len(g.Rules)-1].Name
			if len(g.Rules) != rules+groups || last != fmt.Sprintf("x%d", groups-1) {
				t.Fatalf("%s: %d rules, the last one %s", what, len(g.Rules), last)
			}
			checkMeaning(t, what, s, "a", 1)
		}
	}
	for _, kind := range groupKinds() {
		deep := surfaceOf(aRule("S", "", nested(29, kind, aRow(aText("a")))))
		g := checkFlat(t, "29 deep", deep)
		if len(g.Rules) != 30 || g.Rules[29].Name != "x28" {
			t.Fatalf("29 deep: %s", plainPicture(g))
		}
		want := map[int]string{impl.SnAlt: "[1]", impl.SnStar: "[0 1 2]", impl.SnPlus: "[1 2]", impl.SnOpt: "[0 1]"}[kind]
		if got := fmt.Sprint(checkPlainEnds(t, "29 deep", deep, "aab", 0)); got != want {
			t.Errorf("29 deep, kind %d: %s, not %s", kind, got, want)
		}
		refuseWhole(t, "30 deep", surfaceOf(aRule("S", "", nested(30, kind, aRow(aText("a"))))))
	}
}

// A sign may make more alternatives of its rows: as many as there may be, and one row more.
func TestAsManyAltsAsThereMayBe(t *testing.T) {
	letters := strings.Split("abcdefgh", "")
	for kind, most := range map[int]int{impl.SnAlt: 8, impl.SnStar: 7, impl.SnPlus: 4, impl.SnOpt: 7} {
		for count := 1; count <= 9; count++ {
			rows := []thing{}
			for i := range count {
				rows = append(rows, aRow(aText(letters[i%8])))
			}
			s, what := surfaceOf(aRule("S", "", aRow(signed(kind, rows...)))), fmt.Sprintf("kind %d, %d rows", kind, count)
			if count > most {
				refuseWhole(t, what, s)
				continue
			}
			g := checkFlat(t, what, s)
			alts := map[int]int{impl.SnAlt: count, impl.SnStar: count + 1, impl.SnPlus: 2 * count, impl.SnOpt: count + 1}[kind]
			if len(g.Rules[1].Alts) != alts {
				t.Fatalf("%s: %d alternatives", what, len(g.Rules[1].Alts))
			}
			for from := range 10 {
				checkMeaning(t, what, s, "hgfedcba", from)
				checkMeaning(t, what, s, "abcdefgh", from)
			}
		}
	}
}

// A call of the group's own rule stands behind each row of it: as many things as there may be, and one more.
func TestAsManySymsAsThereMayBe(t *testing.T) {
	for kind, most := range map[int]int{impl.SnAlt: 8, impl.SnStar: 7, impl.SnPlus: 7, impl.SnOpt: 8} {
		for count := 5; count <= 9; count++ {
			for _, one := range []thing{aText("a"), anOpt(aRow(aText("a")))} {
				row := aRow(repeated(count, one)...)
				s, what := surfaceOf(aRule("S", "", aRow(signed(kind, aRow(aText("b")), row)))), fmt.Sprintf("kind %d, %d things", kind, count)
				if count > most {
					refuseWhole(t, what, s)
					continue
				}
				alts := checkFlat(t, what, s).Rules[1].Alts
				if got, want := len(alts[len(alts)-1-oneOf(kind == impl.SnOpt)].Syms), count+oneOf(kind == impl.SnStar || kind == impl.SnPlus); got != want {
					t.Fatalf("%s: %d Syms, not %d", what, got, want)
				}
				checkPlainEnds(t, what, s, strings.Repeat("a", 12), 0)
				checkMeaning(t, what, s, "baaaaaaa", 0)
				checkMeaning(t, what, s, "aaaaaaaab", 1)
			}
		}
	}
}

// Six may be known at a group, by Params, by its own row and by those around it; what is a seventh one is refused.
func TestAsManyParamsAsThereMayBe(t *testing.T) {
	names := strings.Fields("f b d a g c e")
	for params := range 7 {
		for ahead := range 7 - params {
			around := 6 - params - ahead
			for more := range 2 {
				known := slices.Sorted(slices.Values(names[:params]))
				outer, inner := aRow(), aRow()
				for _, name := range names[params : params+ahead] {
					outer.kids = append(outer.kids, aBind(name, "D"))
				}
				for _, name := range names[params+ahead : params+ahead+around+more] {
					inner.kids = append(inner.kids, aBind(name, "D"))
				}
				inner.kids = append(inner.kids, anOpt(aRow(aText("a"))))
				outer.kids = append(outer.kids, aStar(inner))
				s := paramBody(strings.Join(known, " "), outer)
				what := fmt.Sprintf("%d Params, %d ahead, %d within, %d more", params, ahead, around, more)
				if more > 0 {
					refuseWhole(t, what, s)
					continue
				}
				g := checkFlat(t, what, s)
				if last := g.Rules[len(g.Rules)-1]; strings.Join(last.Params, " ") != "a b c d f g" {
					t.Fatalf("%s: the innermost has %q", what, last.Params)
				}
			}
		}
	}
}

func TestTextsAndPlacesOfSurfaces(t *testing.T) {
	for _, sign := range []string{"*", "+"} {
		s := surfaceIn(t, `S -> ( "a" )`+sign+` ;`)
		for length := range 15 {
			text := strings.Repeat("a", length)
			for _, from := range []int{leastInt, -2, -1, 0, 1, length - 1, length, length + 1, length + 2, 12, 13, greatestInt} {
				want := []int{}
				for end := max(from, 0) + oneOf(sign == "+"); length <= 12 && from >= 0 && from <= length && end <= length; end++ {
					want = append(want, end)
				}
				if got := checkPlainEnds(t, sign, s, text, from); !slices.Equal(got, want) {
					t.Errorf("%s over %d, from %d: %v, not %v", sign, length, from, got, want)
				}
			}
		}
	}
	any := surfaceIn(t, `S -> ( [a-z0-9] | S )? ;`)
	for _, b := range allBytes() {
		text := string([]byte{byte(b)})
		checkMeaning(t, "a byte", any, text, 0)
		checkMeaning(t, "a byte behind", any, "a"+text, 0)
	}
	for _, text := range []string{"aaaaaaaaaaaaa", "aaaaaaaaaaaa\x00", strings.Repeat("a", 5000)} {
		if got := impl.SurfaceEnds(any, text, 0); len(got) > 0 {
			t.Errorf("%d bytes: %v", len(text), got)
		}
	}
}

// goalsOf has a rule and a group in it, each with a hundred goals, and another rule with so many as there are left.
func goalsOf(last int) string {
	return fmt.Sprintf(`S -> N(0) M(0) ; N(n) -> ( { n < 99 } N(n + 1) )? ; M(m) -> { m < %d } M(m + 1) | ;`, last)
}

func TestAsManyGoalsOfSurfacesAsThereMayBe(t *testing.T) {
	for last := 95; last <= 99; last++ {
		s := surfaceIn(t, goalsOf(last))
		g := checkFlat(t, "many goals", s)
		// S, a hundred of N, of the group in it, and M from 0 up to the last one.
		goals := 1 + 100 + 100 + last + 1
		chart, ok := impl.RunGoal(g, "ab", "S", nil, 1)
		if ok != (goals <= 300) || ok && len(chart.Goals) != goals {
			t.Fatalf("%d goals: %d, %v", goals, len(chart.Goals), ok)
		}
		want := "[1]"
		if goals > 300 {
			want = "[]"
		}
		if got := fmt.Sprint(checkPlainEnds(t, "many goals", s, "ab", 1)); got != want {
			t.Errorf("%d goals: %s, not %s", goals, got, want)
		}
	}
	// A goal of each group counts, too: S has one, and N and its two groups one of each number.
	for _, sign := range []string{"", "?", "*", "+"} {
		for last, want := range map[int]string{98: "[1]", 99: "[]"} {
			s := surfaceIn(t, fmt.Sprintf("S -> N(0) ; N(n) -> { n < %d } N(n + 1) | ( )%s ( )%s ;", last, sign, sign))
			if got := fmt.Sprint(checkPlainEnds(t, sign, s, "ab", 1)); got != want {
				t.Errorf("two groups with %q up to %d: %s, not %s", sign, last, got, want)
			}
		}
	}
	// And one of each place from which a group goes on: of each number, N has one, and its group three.
	for _, sign := range []string{"*", "+"} {
		for last, want := range map[int]string{73: "[0 1 2]", 74: "[]"} {
			s := surfaceIn(t, fmt.Sprintf("S -> N(0) | ; N(n) -> { n < %d } N(n + 1) | ( \"a\" )%s ;", last, sign))
			if got := fmt.Sprint(checkPlainEnds(t, sign, s, "aa", 0)); got != want {
				t.Errorf("a group with %q up to %d: %s, not %s", sign, last, got, want)
			}
		}
	}
}

func TestWrongSurfacesHaveNoPlainRules(t *testing.T) {
	whole := allKinds()
	for what, change := range map[string]func(s *impl.Surface){
		"no rules":        func(s *impl.Surface) { s.Rules = nil },
		"no nodes":        func(s *impl.Surface) { s.Nodes = nil },
		"nothing":         func(s *impl.Surface) { *s = impl.Surface{} },
		"a node more":     func(s *impl.Surface) { s.Nodes = append(s.Nodes, impl.SNode{Kind: impl.SnRow}) },
		"a node less":     func(s *impl.Surface) { s.Nodes = s.Nodes[:len(s.Nodes)-1] },
		"121 nodes":       func(s *impl.Surface) { *s = tooManyNodes() },
		"nine rules":      func(s *impl.Surface) { *s = surfaceOf(append(eightRules(), aRule("More", "", aRow()))...) },
		"two of one Name": func(s *impl.Surface) { s.Rules[1].Name = "S" },
		"a wrong Name":    func(s *impl.Surface) { s.Rules[0].Name = "S!" },
		"Params of S":     func(s *impl.Surface) { s.Rules[0].Params = []string{"a"} },
		"a wrong Param":   func(s *impl.Surface) { s.Rules[2].Params = []string{"nnnnn"} },
		"a Param more":    func(s *impl.Surface) { s.Rules[2].Params = []string{"m", "n"} },
		"no such Body":    func(s *impl.Surface) { s.Rules[0].Body = len(s.Nodes) },
		"a Body below 0":  func(s *impl.Surface) { s.Rules[0].Body = -1 },
		"a row as a Body": func(s *impl.Surface) { s.Rules[0].Body = placeOf(*s, impl.SnRow) },
		"one Body twice":  func(s *impl.Surface) { s.Rules[1].Body = s.Rules[0].Body },
		"a Kid not ahead": func(s *impl.Surface) { s.Nodes[placeOf(*s, impl.SnStar)].Kids[0] = placeOf(*s, impl.SnStar) },
		"a Kid below 0":   func(s *impl.Surface) { s.Nodes[placeOf(*s, impl.SnRow)].Kids[0] = -1 },
		"a Kid twice": func(s *impl.Surface) {
			row := &s.Nodes[placeOf(*s, impl.SnRow)]
			row.Kids = append(row.Kids, row.Kids[0])
		},
		"a row in a row":   func(s *impl.Surface) { s.Nodes[placeOf(*s, impl.SnAlt)].Kind = impl.SnRow },
		"no such Kind":     func(s *impl.Surface) { s.Nodes[0].Kind = 10 },
		"the Kind 0":       func(s *impl.Surface) { s.Nodes[0].Kind = 0 },
		"a wrong Text":     func(s *impl.Surface) { s.Nodes[placeOf(*s, impl.SnText)].Text = "A" },
		"a wrong set":      func(s *impl.Surface) { s.Nodes[placeOf(*s, impl.SnSet)].Text = "z-a" },
		"no such call":     func(s *impl.Surface) { s.Nodes[placeOf(*s, impl.SnCall)].Text = "T" },
		"an Arg more":      func(s *impl.Surface) { s.Nodes[placeOf(*s, impl.SnCall)].Args = numbers(1) },
		"a wrong Bind":     func(s *impl.Surface) { s.Nodes[placeOf(*s, impl.SnCall)].Bind = "N" },
		"what is not told": func(s *impl.Surface) { s.Nodes[placeOf(*s, impl.SnIf)].Args[0] = asked("z") },
		"an If of two":     func(s *impl.Surface) { s.Nodes[placeOf(*s, impl.SnIf)].Args = numbers(2) },
		"a sign that is":   func(s *impl.Surface) { s.Nodes[placeOf(*s, impl.SnPlus)].Bind = "b" },
	} {
		refuseWhole(t, what, turned(whole, change))
	}
	for at := range whole.Nodes {
		for kind := -1; kind <= 11; kind++ {
			s := turned(whole, func(s *impl.Surface) { s.Nodes[at].Kind = kind })
			if !slowSurfaceOk(s) {
				refuseWhole(t, "another Kind", s)
			}
		}
	}
	// What a group binds is not known behind it, whatever its sign.
	for _, kind := range groupKinds() {
		group := signed(kind, aRow(aBind("k", "D")))
		checkWhole(t, "bound in a group", oneBody(aRow(group)))
		refuseWhole(t, "asked behind the group", oneBody(aRow(group, anIf(asked("k")))))
		refuseWhole(t, "handed on behind the group", oneBody(aRow(group, aCall("N", asked("k")))))
		refuseWhole(t, "asked in the next group", oneBody(aRow(group, signed(kind, aRow(anIf(asked("k")))))))
		refuseWhole(t, "asked in the next row", oneBody(aRow(signed(kind, aRow(aBind("k", "D")), aRow(anIf(asked("k")))))))
		refuseWhole(t, "asked ahead, as if from the time before", oneBody(aRow(signed(kind, aRow(anIf(asked("k")), aBind("k", "D"))))))
		refuseWhole(t, "bound again in a group", oneBody(aRow(aBind("k", "D"), group)))
	}
}

func tooManyNodes() impl.Surface {
	full := aRow(repeated(8, aText("a"))...)
	return surfaceOf(aRule("S", "", repeated(8, full)...), aRule("T", "", append(repeated(5, full), aRow(aText("a")))...))
}

func TestNamesOfRulesThatAreMade(t *testing.T) {
	for _, name := range []string{"x0", "x9", "x00", "x1a", "x123", "x99999"} {
		refuseWhole(t, name, surfaceOf(aRule(name, "", aRow(aText("a")))))
		refuseWhole(t, name+" behind", surfaceOf(aRule("S", "", aRow(aCall(name), aStar(aRow()))), aRule(name, "", aRow(aText("a")))))
		refuseWhole(t, name+" without a group", surfaceOf(aRule("S", "", aRow(aText("a"))), aRule(name, "", aRow())))
	}
	for _, name := range []string{"x", "xx", "xa", "xa0", "xX0", "X0", "X", "y0", "ax0", "xabcde"} {
		checkWhole(t, name, surfaceOf(aRule(name, "", aRow(aText("a"), aStar(aRow(aCall(name)))))))
		checkWhole(t, name+" behind", surfaceOf(aRule("S", "", aRow(aPlus(aRow(aCall(name))))), aRule(name, "", aRow(aText("a")))))
	}
}

// smallThings makes rows of what smallGrammar has, and of groups of such rows.
type smallThings struct {
	next   func(n int) int
	heads  impl.Grammar
	groups int
}

func (m *smallThings) rows(known []string, depth, most int) []thing {
	rows := []thing{}
	for range 1 + m.next(most) {
		row, known := aRow(), slices.Clone(known)
		for range m.next(4) {
			one := m.thing(known, depth)
			row.kids = append(row.kids, one)
			if one.node.Bind != "" {
				known = append(known, one.node.Bind)
			}
		}
		rows = append(rows, row)
	}
	return rows
}

func (m *smallThings) thing(known []string, depth int) thing {
	if depth < 4 && m.groups > 0 && m.next(3) == 0 {
		m.groups--
		return signed(groupKinds()[m.next(4)], m.rows(known, depth+1, 3)...)
	}
	sym := smallSym(m.next, m.heads, known)
	return thing{node: impl.SNode{Kind: sym.Kind, Text: sym.Text, Args: sym.Args, Bind: sym.Bind}}
}

// smallSurface takes a, b and 1; most are right.
func smallSurface(next func(n int) int) impl.Surface {
	rules := []writtenRule{}
	m := smallThings{next: next, groups: 6}
	for i := range 1 + next(4) {
		params := []string{}
		for _, param := range []string{"c", "n"} {
			if i > 0 && next(3) == 0 {
				params = append(params, param)
			}
		}
		rules = append(rules, writtenRule{name: fmt.Sprintf("R%d", i), params: params})
		m.heads.Rules = append(m.heads.Rules, impl.Rule{Name: rules[i].name, Params: params})
	}
	for i := range rules {
		rules[i].body = aGroup(m.rows(rules[i].params, 0, 4)...)
	}
	return surfaceOf(rules...)
}

func TestMeaningsOfManySeeds(t *testing.T) {
	t.Parallel()
	const seeds = 4000
	right, ended, several, grouped := 0, 0, 0, 0
	for seed := range seeds {
		next := seeded(seed)
		s, what := smallSurface(next), fmt.Sprint("seed ", seed)
		checkFlat(t, what, s)
		checkNames(t, what, s)
		text := ""
		for range next(6) {
			text += string("ab1"[next(3)])
		}
		ends := checkMeaning(t, what, s, text, next(len(text)+1))
		right += oneOf(slowSurfaceOk(s))
		ended += oneOf(len(ends) > 0)
		several += oneOf(len(ends) > 1)
		grouped += oneOf(len(ends) > 0 && len(slowGroups(s)) > 1)
	}
	if right < seeds/2 || ended < seeds/4 || several < seeds/20 || grouped < seeds/10 {
		t.Errorf("of %d: %d are right, %d end, %d at several places, %d by several groups", seeds, right, ended, several, grouped)
	}
}

// Longer texts, and expressions of all kinds: held against the plain rules alone.
func TestMeaningsOfLongTexts(t *testing.T) {
	t.Parallel()
	ended, far := 0, 0
	for seed := range 1000 {
		next := seeded(-1 - seed)
		s := smallSurface(next)
		for _, text := range []string{"aaaaaaaaaaaa", "abababababab", "1a1b1a1b1a1b", "a1b"} {
			ends := checkPlainEnds(t, fmt.Sprint("seed ", seed), s, text, next(len(text)+1))
			ended += oneOf(len(ends) > 0)
			far += oneOf(len(ends) > 3)
		}
		other := someSurface(next)
		checkFlat(t, "any", other)
		checkNames(t, "any", other)
		checkPlainEnds(t, "any", other, "a1", 0)
	}
	if ended < 1000 || far < 100 {
		t.Errorf("%d end, %d of them at many places", ended, far)
	}
}

func TestSpoiltSurfacesOfManySeeds(t *testing.T) {
	wrong := 0
	for seed := range 3000 {
		next := seeded(seed)
		s := copied(someSurface(next))
		for range 1 + next(3) {
			spoilSurface(next, &s)
		}
		what := fmt.Sprint("seed ", seed)
		if slowSurfaceOk(s) {
			checkFlat(t, what, s)
			checkNames(t, what, s)
			continue
		}
		refuseWhole(t, what, s)
		wrong++
	}
	if wrong < 1000 {
		t.Errorf("only %d are wrong", wrong)
	}
}

// A group without a sign may stand around all rows of a rule.
func TestGroupsThatChangeNothing(t *testing.T) {
	t.Parallel()
	for seed := range 1500 {
		next := seeded(seed)
		s := smallSurface(next)
		if !slowSurfaceOk(s) {
			continue
		}
		// Each Body in a group of its own: the rows of the rule are those of the group.
		around := copied(s)
		for i := range around.Rules {
			body := around.Rules[i].Body
			around.Nodes = append(around.Nodes, impl.SNode{Kind: impl.SnRow, Kids: []int{body}}, impl.SNode{Kind: impl.SnAlt, Kids: []int{len(around.Nodes)}})
			around.Rules[i].Body = len(around.Nodes) - 1
		}
		text := mixedOf("ab1", next, next(8))
		g, _ := impl.Flatten(around)
		if _, runs := impl.RunGoal(g, text, firstName(g), nil, 0); !runs {
			continue
		}
		want, got := impl.SurfaceEnds(s, text, 0), checkPlainEnds(t, "a group around each rule", around, text, 0)
		if !slices.Equal(got, want) {
			t.Fatalf("seed %d over %q: %v, and with a group around each rule %v", seed, text, want, got)
		}
	}
}

func mixedOf(letters string, next func(n int) int, length int) string {
	text := ""
	for range length {
		text += string(letters[next(len(letters))])
	}
	return text
}

func TestPlainAnswersShareNoMemory(t *testing.T) {
	surfaces := rightSurfaces()
	surfaces["all kinds"] = allKinds()
	surfaces["nothing"] = impl.Surface{}
	surfaces["bound twice"] = oneBody(aRow(aBind("b", "D"), aBind("b", "D")))
	surfaces["Params out of order"] = paramBody("c a b", aRow(aBind("b", "D")))
	for seed := range 300 {
		surfaces[fmt.Sprint("seed ", seed)] = smallSurface(seeded(seed))
	}
	for what, plain := range surfaces {
		s, bytes := roomySurface(plain), []byte("1ab1")
		text := unsafe.String(unsafe.SliceData(bytes), len(bytes))
		before := roomPicture(s)
		ends, again := impl.SurfaceEnds(s, text, 0), impl.SurfaceEnds(s, text, 0)
		lists, texts := surfaceStretches(s)
		checkApart(t, what, []stretch{listStretch(ends)}, append(lists, listStretch(again)))
		g, _ := impl.Flatten(s)
		other, _ := impl.Flatten(s)
		flat, flatTexts := grammarStretches(g)
		more, _ := grammarStretches(other)
		checkApart(t, what, flat, append(lists, more...))
		checkApart(t, what, flatTexts, texts)
		checkEachApart(t, what, flat)
		for rule := range s.Rules {
			names, namesAgain := impl.KnownAt(s, rule), impl.KnownAt(s, rule)
			checkApart(t, what, []stretch{listStretch(names)}, append(lists, listStretch(namesAgain)))
			for _, name := range names {
				checkApart(t, what, []stretch{textStretch(name)}, texts)
			}
		}
		if after := roomPicture(s); after != before || string(bytes) != "1ab1" {
			t.Fatalf("%s: an argument is changed:\n%s\nwas\n%s", what, after, before)
		}
		if want := impl.SurfaceEnds(plain, "1ab1", 0); !slices.Equal(ends, want) {
			t.Fatalf("%s: with spare room behind its lists %v, not %v", what, ends, want)
		}
	}
}

// What is not right may be as great as it likes: it is told soon.
func TestHugeSurfacesArePlainSoon(t *testing.T) {
	nodes := []impl.SNode{{Kind: impl.SnCall, Bind: "a"}}
	for at := 1; at < 100000; at++ {
		nodes = append(nodes, impl.SNode{Kind: impl.SnRow, Bind: []string{"b", "c", ""}[at%3], Kids: []int{at - 1, at - 1, at, 0}})
	}
	s := impl.Surface{Nodes: nodes, Rules: []impl.SRule{{Name: "S", Body: len(nodes) - 1, Params: slices.Repeat([]string{"p", "o"}, 50000)}}}
	if got := strings.Join(impl.KnownAt(s, 0), " "); got != "a b c o p" {
		t.Errorf("KnownAt of many nodes = %q", got)
	}
	if g, ok := impl.Flatten(s); ok || g.Rules != nil || len(impl.SurfaceEnds(s, "a", 0)) > 0 {
		t.Error("many nodes are made plain")
	}
	// A group within each of many, over the longest text: what is read from a place is read once.
	for _, inner := range []string{`"a"`, `( "a" )+ ( "a" )*`, `"a" | | S`} {
		deep := surfaceIn(t, "S -> "+strings.Repeat("( ", 15)+inner+strings.Repeat(" )*", 15)+" ;")
		if got := checkPlainEnds(t, inner, deep, strings.Repeat("a", 12), 0); len(got) != 13 {
			t.Errorf("%s, 15 deep: %v", inner, got)
		}
	}
	many := surfaceIn(t, `S -> a:S b:S c:S d:S e:S f:S | "a" | ;`)
	if got := checkPlainEnds(t, "six bound", many, strings.Repeat("a", 12), 0); len(got) != 13 {
		t.Errorf("six bound: %v", got)
	}
}

func TestPlainAnswersTheSameAgain(t *testing.T) {
	s := surfaceIn(t, `S -> n:D ( "a" { n < 5 } ( b:D )? | )* ; D -> [0-9] ;`)
	for range 30 {
		ends, names := impl.SurfaceEnds(s, "3a1a", 0), impl.KnownAt(s, 0)
		if fmt.Sprint(ends) != "[1 2 3 4]" || fmt.Sprint(names) != "[b n]" {
			t.Fatalf("%v, %v", ends, names)
		}
		g := checkFlat(t, "again", s)
		for i := range ends {
			ends[i] = 77
		}
		for i := range names {
			names[i] = "over"
		}
		for i := range g.Rules {
			g.Rules[i].Name = "over"
			for j := range g.Rules[i].Params {
				g.Rules[i].Params[j] = "over"
			}
		}
		refuseWhole(t, "bound twice", oneBody(aRow(aBind("b", "D"), aBind("b", "D"))))
		if got := impl.SurfaceEnds(s, "7a", 0); fmt.Sprint(got) != "[1]" {
			t.Fatalf("%v", got)
		}
	}
}
