package tests

import (
	"fmt"
	"slices"
	"strings"
	"testing"
	"unsafe"

	"loop.example/g00243/impl"
)

// slowForm writes as the document says, of anything at all; a test may have something else stand in one place.
type slowForm struct {
	number func(n int) string
	single func(what string, n int) string
	arg    func(text string) string
}

func plainForm() slowForm {
	return slowForm{
		number: func(n int) string { return varOf(uint64(n)) },
		single: func(_ string, n int) string { return string([]byte{byte(n)}) },
		arg:    func(text string) string { return text },
	}
}

func (f slowForm) short(text string) string { return f.number(len(text)) + text }

func (f slowForm) expr(e impl.Expr) string {
	text := f.number(len(e.Nodes))
	for _, n := range e.Nodes {
		text += f.single("Op", n.Op) + f.number(n.Num) + f.short(n.Name)
		for _, kid := range n.Kids {
			text += f.single("Kid", kid)
		}
	}
	return text
}

func (f slowForm) sym(sym impl.Sym) string {
	text := f.single("Kind", sym.Kind) + f.short(sym.Text) + f.short(sym.Bind) + f.number(len(sym.Args))
	for _, arg := range sym.Args {
		text += f.short(f.arg(f.expr(arg)))
	}
	return text
}

func (f slowForm) grammar(g impl.Grammar) string {
	var text strings.Builder
	text.WriteString(f.number(len(g.Rules)))
	for _, rule := range g.Rules {
		text.WriteString(f.short(rule.Name) + f.number(len(rule.Params)))
		for _, param := range rule.Params {
			text.WriteString(f.short(param))
		}
		text.WriteString(f.number(len(rule.Alts)))
		for _, alt := range rule.Alts {
			text.WriteString(f.number(len(alt.Syms)))
			for _, sym := range alt.Syms {
				text.WriteString(f.sym(sym))
			}
		}
	}
	return text.String()
}

// insideOf is what of a grammar is sealed, also of one that is not right.
func insideOf(g impl.Grammar) string { return plainForm().grammar(g) }

func slowExprText(e impl.Expr) (string, bool) {
	if !slowExprOk(e) {
		return "", false
	}
	return plainForm().expr(e), true
}

func slowGrammarText(g impl.Grammar) (string, bool) {
	// The four bytes of the sum are told, too.
	if !slowGrammarOk(g) || len(insideOf(g))+4 > 20000 {
		return "", false
	}
	return slowSealed(insideOf(g)), true
}

// slowBytes is what is left of a text to be read; it is bad once there was too little of it.
type slowBytes struct {
	rest string
	bad  bool
}

func (s *slowBytes) take(count int) string {
	if s.bad || count > len(s.rest) {
		s.bad = true
		return ""
	}
	taken := s.rest[:count]
	s.rest = s.rest[count:]
	return taken
}

func (s *slowBytes) single() int {
	if taken := s.take(1); !s.bad {
		return int(taken[0])
	}
	return 0
}

// number looks how many bytes, from 1 to 5, are those of a number just as it is written.
func (s *slowBytes) number() int {
	for size := 1; size <= 5 && size <= len(s.rest) && !s.bad; size++ {
		n := 0
		for i := size - 1; i >= 0; i-- {
			n = n*128 + int(s.rest[i])%128
		}
		if n <= 1000000000 && varOf(uint64(n)) == s.rest[:size] {
			s.rest = s.rest[size:]
			return n
		}
	}
	s.bad = true
	return 0
}

func (s *slowBytes) short() string {
	n := s.number()
	return s.take(n)
}

func (s *slowBytes) expr() impl.Expr {
	e := impl.Expr{}
	for i, count := 0, s.number(); i < count && !s.bad; i++ {
		n := impl.ExNode{}
		n.Op = s.single()
		n.Num = s.number()
		n.Name = s.short()
		if n.Op >= 4 && n.Op <= 11 {
			n.Kids = append(n.Kids, s.single())
		}
		if n.Op >= 4 && n.Op <= 10 {
			n.Kids = append(n.Kids, s.single())
		}
		e.Nodes = append(e.Nodes, n)
	}
	return e
}

func (s *slowBytes) sym() impl.Sym {
	sym := impl.Sym{}
	sym.Kind = s.single()
	sym.Text = s.short()
	sym.Bind = s.short()
	for i, count := 0, s.number(); i < count && !s.bad; i++ {
		inner := slowBytes{rest: s.short(), bad: s.bad}
		sym.Args = append(sym.Args, inner.expr())
		s.bad = s.bad || inner.bad || inner.rest != ""
	}
	return sym
}

func (s *slowBytes) rule() impl.Rule {
	rule := impl.Rule{}
	rule.Name = s.short()
	for i, count := 0, s.number(); i < count && !s.bad; i++ {
		rule.Params = append(rule.Params, s.short())
	}
	for i, count := 0, s.number(); i < count && !s.bad; i++ {
		alt := impl.Alt{}
		for j, syms := 0, s.number(); j < syms && !s.bad; j++ {
			alt.Syms = append(alt.Syms, s.sym())
		}
		rule.Alts = append(rule.Alts, alt)
	}
	return rule
}

func slowReadGrammar(text string) (impl.Grammar, bool) {
	end := len(text) - 4
	if end < 0 || len(text) > 20000 || slowSealed(text[:end]) != text {
		return impl.Grammar{}, false
	}
	s, g := slowBytes{rest: text[:end]}, impl.Grammar{}
	for i, count := 0, s.number(); i < count && !s.bad; i++ {
		g.Rules = append(g.Rules, s.rule())
	}
	if s.bad || s.rest != "" || !slowGrammarOk(g) {
		return impl.Grammar{}, false
	}
	return g, true
}

func slowSameEach[T any](a, b []T, same func(one, other T) bool) bool {
	if len(a) != len(b) {
		return false
	}
	for i := range a {
		if !same(a[i], b[i]) {
			return false
		}
	}
	return true
}

func alike[T comparable](one, other T) bool { return one == other }

// slowSame goes through all fields.
func slowSame(a, b impl.Grammar) bool {
	nodes := func(m, n impl.ExNode) bool {
		return m.Op == n.Op && m.Num == n.Num && m.Name == n.Name && slowSameEach(m.Kids, n.Kids, alike)
	}
	exprs := func(d, e impl.Expr) bool { return slowSameEach(d.Nodes, e.Nodes, nodes) }
	syms := func(r, s impl.Sym) bool {
		return r.Kind == s.Kind && r.Text == s.Text && r.Bind == s.Bind && slowSameEach(r.Args, s.Args, exprs)
	}
	alts := func(c, d impl.Alt) bool { return slowSameEach(c.Syms, d.Syms, syms) }
	return slowSameEach(a.Rules, b.Rules, func(q, r impl.Rule) bool {
		return q.Name == r.Name && slowSameEach(q.Params, r.Params, alike) && slowSameEach(q.Alts, r.Alts, alts)
	})
}

// checkSameGrammar holds SameGrammar against the slow way, from both sides, and of each with itself.
func checkSameGrammar(t *testing.T, what string, a, b impl.Grammar) bool {
	t.Helper()
	want := slowSame(a, b)
	if impl.SameGrammar(a, b) != want || impl.SameGrammar(b, a) != want {
		t.Fatalf("%s: SameGrammar is not %v of\n%v\n%v", what, want, a, b)
	}
	if !impl.SameGrammar(a, a) || !impl.SameGrammar(b, b) {
		t.Fatalf("%s: not the same as itself:\n%v\n%v", what, a, b)
	}
	return want
}

func checkExprText(t *testing.T, what string, e impl.Expr) (string, bool) {
	t.Helper()
	got, ok := impl.ExprText(e)
	if want, right := slowExprText(e); got != want || ok != right {
		t.Fatalf("%s: ExprText(%v) = %q, %v, not %q, %v", what, e, got, ok, want, right)
	}
	return got, ok
}

func refuseExprText(t *testing.T, what string, e impl.Expr) {
	t.Helper()
	if text, ok := checkExprText(t, what, e); ok || text != "" {
		t.Fatalf("%s: ExprText(%v) = %q, %v", what, e, text, ok)
	}
}

// checkBytes holds GrammarText against the slow one; what is written must come back, and be written again.
func checkBytes(t *testing.T, what string, g impl.Grammar) (string, bool) {
	t.Helper()
	got, ok := impl.GrammarText(g)
	if want, right := slowGrammarText(g); got != want || ok != right {
		t.Fatalf("%s: GrammarText = %q, %v, not %q, %v, of\n%v", what, got, ok, want, right, g)
	}
	if !ok {
		return got, ok
	}
	back, ok := impl.ReadGrammar(got)
	if !ok || !slowSame(back, g) || !impl.SameGrammar(back, g) || !impl.SameGrammar(g, back) {
		t.Fatalf("%s: %q comes back as %v\n%snot\n%s", what, got, ok, plainPicture(back), plainPicture(g))
	}
	if again, ok := impl.GrammarText(back); !ok || again != got {
		t.Fatalf("%s: written as %q, and then as %q", what, got, again)
	}
	return got, true
}

func takeBytes(t *testing.T, what string, g impl.Grammar) string {
	t.Helper()
	text, ok := checkBytes(t, what, g)
	if !ok {
		t.Fatalf("%s: GrammarText is false of\n%v", what, g)
	}
	return text
}

func refuseBytes(t *testing.T, what string, g impl.Grammar) {
	t.Helper()
	if text, ok := checkBytes(t, what, g); ok || text != "" {
		t.Fatalf("%s: GrammarText = %q, %v, of\n%v", what, text, ok, g)
	}
}

// checkRead holds ReadGrammar against the slow one; what it takes must be what is written.
func checkRead(t *testing.T, what, text string) (impl.Grammar, bool) {
	t.Helper()
	got, ok := impl.ReadGrammar(text)
	want, right := slowReadGrammar(text)
	if ok != right || !slowSame(got, want) {
		t.Fatalf("%s: ReadGrammar(%q) = %v\n%snot %v\n%s", what, text, ok, plainPicture(got), right, plainPicture(want))
	}
	if !ok {
		return got, ok
	}
	if again, ok := impl.GrammarText(got); !ok || again != text {
		t.Fatalf("%s: read from %q, and written as %q", what, text, again)
	}
	return got, true
}

func refuseRead(t *testing.T, what, text string) {
	t.Helper()
	if g, ok := checkRead(t, what, text); ok || len(g.Rules) > 0 {
		t.Fatalf("%s: ReadGrammar(%q) = %v, %v", what, text, g, ok)
	}
}

// refuseInside wants no grammar of what is sealed well.
func refuseInside(t *testing.T, what, inside string) {
	t.Helper()
	refuseRead(t, what, slowSealed(inside))
}

func withinGrammar() impl.Grammar {
	return grammarOf(ruleOf("S", "", altOf(symText("a"), symCall("S"), symText("b")), altOf()))
}

// eachThing has what may stand in a grammar, in few bytes.
func eachThing() impl.Grammar {
	return grammarOf(
		ruleOf("S", "", altOf(symBound("n", "D"), symCall("Row", asked("n"), exprOf(hereNode(), not(0))))),
		ruleOf("D", "", altOf(symSet("0-9")), altOf(symText("+"), symIf(number(99))), altOf()),
		ruleOf("Row", "k n", altOf(symIf(exprOf(num(0), named("n"), pair(impl.ExLess, 0, 1))), symBound("z", "Row", twoNamed("k", "n"), number(7)))),
	)
}

// bytesGrammars are right, and of all kinds.
func bytesGrammars(t *testing.T) map[string]impl.Grammar {
	t.Helper()
	grammars := rightGrammars()
	grammars["a b within"] = withinGrammar()
	grammars["each thing"] = eachThing()
	grammars["30 rules"] = manyRules(30)
	for _, written := range someLists() {
		g, ok := impl.OpsGrammar(opsOf(written))
		if !ok {
			t.Fatalf("OpsGrammar of %s is false", written)
		}
		grammars["operators "+written] = g
	}
	for what, s := range rightSurfaces() {
		if g, ok := impl.Flatten(s); ok {
			grammars["a surface: "+what] = g
		}
	}
	return grammars
}

func exprBytesAre(t *testing.T, e impl.Expr, want string) {
	t.Helper()
	if got, ok := checkExprText(t, "by hand", e); !ok || got != want {
		t.Errorf("ExprText(%v) = %q, %v, not %q", e, got, ok, want)
	}
}

func TestExprBytesByHand(t *testing.T) {
	exprBytesAre(t, number(7), "\x01\x01\x07\x00")
	exprBytesAre(t, number(0), "\x01\x01\x00\x00")
	exprBytesAre(t, number(99), "\x01\x01\x63\x00")
	exprBytesAre(t, asked("n"), "\x01\x02\x00\x01n")
	exprBytesAre(t, asked("zzzz"), "\x01\x02\x00\x04zzzz")
	exprBytesAre(t, exprOf(hereNode()), "\x01\x03\x00\x00")
	for _, op := range pairOps() {
		exprBytesAre(t, twoNames(op), "\x03\x02\x00\x01a\x02\x00\x01b"+string(rune(op))+"\x00\x00\x00\x01")
		exprBytesAre(t, exprOf(num(1), pair(op, 0, 0)), "\x02\x01\x01\x00"+string(rune(op))+"\x00\x00\x00\x00")
	}
	exprBytesAre(t, exprOf(num(5), not(0)), "\x02\x01\x05\x00\x0b\x00\x00\x00")
	exprBytesAre(t, exprOf(hereNode(), num(2), pair(impl.ExMul, 1, 0), not(2)), "\x04\x03\x00\x00\x01\x02\x00\x06\x00\x00\x01\x00\x0b\x00\x00\x02")
	// What the whole does not come to is written, too.
	exprBytesAre(t, exprOf(named("ab"), num(3)), "\x02\x02\x00\x02ab\x01\x03\x00")
	long := "\x14\x01\x00\x00"
	for kid := range 19 {
		long += "\x0b\x00\x00" + string(rune(kid))
	}
	exprBytesAre(t, chain(20), long)
}

func TestExprBytesOfManySeeds(t *testing.T) {
	someExprs(60, func(e impl.Expr) {
		if _, ok := checkExprText(t, "a seed", e); !ok {
			t.Fatalf("ExprText(%v) is false", e)
		}
	})
}

func TestWrongExprsHaveNoBytes(t *testing.T) {
	for what, e := range map[string]impl.Expr{
		"no nodes": {}, "21 nodes": chain(21), "many nodes": chain(300),
		"a Num of 100": number(100), "a Num of -1": number(-1), "a Num of 128": number(128), "a great Num": number(1000000000),
		"the least Num": number(leastInt), "the greatest Num": number(greatestInt),
		"no Name": asked(""), "a Name of five": asked("abcde"), "a great letter": asked("A"), "a figure": asked("a1"),
		"no Op": exprOf(impl.ExNode{}), "the Op 12": exprOf(impl.ExNode{Op: 12}), "the Op -1": exprOf(impl.ExNode{Op: -1}),
		"an Op that is 1 in its lowest byte": exprOf(impl.ExNode{Op: 257}),
		"an Op that is 3 in its lowest byte": exprOf(impl.ExNode{Op: 259 - 512}),
		"a Kid that is 0 in its lowest byte": exprOf(num(1), not(256)),
		"a Kid below":                        exprOf(num(1), not(-1)),
		"a Kid that is itself":               exprOf(num(1), not(1)),
		"a Kid behind":                       exprOf(num(1), not(2), num(1)),
		"a pair of one":                      exprOf(num(1), impl.ExNode{Op: impl.ExAdd, Kids: []int{0}}),
		"a pair of three":                    exprOf(num(1), impl.ExNode{Op: impl.ExAdd, Kids: []int{0, 0, 0}}),
		"a not of none":                      exprOf(num(1), impl.ExNode{Op: impl.ExNot}),
		"a not of two":                       exprOf(num(1), impl.ExNode{Op: impl.ExNot, Kids: []int{0, 0}}),
		"a number of one":                    exprOf(num(1), impl.ExNode{Op: impl.ExNum, Kids: []int{0}}),
		"a number with a Name":               exprOf(impl.ExNode{Op: impl.ExNum, Name: "n"}),
		"a name with a Num":                  exprOf(impl.ExNode{Op: impl.ExVar, Name: "n", Num: 1}),
		"here with a Num":                    exprOf(impl.ExNode{Op: impl.ExHere, Num: 1}),
		"a pair with a Num":                  exprOf(num(1), impl.ExNode{Op: impl.ExAdd, Num: 1, Kids: []int{0, 0}}),
		"what the whole does not come to":    exprOf(num(100), num(1)),
	} {
		refuseExprText(t, what, e)
	}
}

// shownAlike are rows of expressions of which each is shown as the others of its row, and is another one.
func shownAlike() [][]impl.Expr {
	a, b := named("a"), named("b")
	return [][]impl.Expr{
		{number(7), exprOf(num(1), num(7)), exprOf(num(7), num(7)), exprOf(hereNode(), num(7)), exprOf(a, num(7)), exprOf(a, not(0), num(7))},
		{
			exprOf(a, pair(impl.ExAdd, 0, 0)), exprOf(a, a, pair(impl.ExAdd, 0, 1)), exprOf(a, a, pair(impl.ExAdd, 1, 0)),
			exprOf(a, a, pair(impl.ExAdd, 0, 0)), exprOf(a, a, pair(impl.ExAdd, 1, 1)), exprOf(a, b, pair(impl.ExAdd, 0, 0)), exprOf(b, a, pair(impl.ExAdd, 1, 1)),
		},
		{exprOf(a, b, pair(impl.ExLess, 0, 1)), exprOf(b, a, pair(impl.ExLess, 1, 0)), exprOf(num(0), a, b, pair(impl.ExLess, 1, 2))},
		{exprOf(a, not(0), not(1)), exprOf(a, a, not(0), not(2)), exprOf(a, a, not(1), not(2)), exprOf(a, not(0), not(0), not(2)), exprOf(a, not(0), not(0), not(1))},
		{
			exprOf(hereNode(), pair(impl.ExMul, 0, 0), pair(impl.ExSub, 1, 1)),
			exprOf(hereNode(), pair(impl.ExMul, 0, 0), pair(impl.ExMul, 0, 0), pair(impl.ExSub, 1, 2)),
			exprOf(hereNode(), hereNode(), pair(impl.ExMul, 0, 1), pair(impl.ExMul, 1, 0), pair(impl.ExSub, 3, 2)),
		},
		// Nothing is shown of these, for that would be too much.
		{doubled(impl.ExAdd, 20), doubled(impl.ExAdd, 19), doubled(impl.ExSub, 20), more(doubled(impl.ExAdd, 12), a, pair(impl.ExAnd, 11, 12))},
	}
}

func TestExpressionsThatAreShownAlike(t *testing.T) {
	for _, row := range shownAlike() {
		texts := map[string]bool{}
		for i, e := range row {
			if impl.ShowExpr(e) != impl.ShowExpr(row[0]) {
				t.Fatalf("%v and %v are not shown alike", e, row[0])
			}
			text, ok := checkExprText(t, "shown alike", e)
			if !ok || texts[text] {
				t.Fatalf("%v has the bytes %q, as another one", e, text)
			}
			texts[text] = true
			for _, with := range []func(e impl.Expr) impl.Grammar{
				func(e impl.Expr) impl.Grammar { return paramRule("a b", altOf(symIf(e))) },
				func(e impl.Expr) impl.Grammar { return paramRule("a b", altOf(), altOf(symText("a"), symCall("N", e))) },
				func(e impl.Expr) impl.Grammar { return paramRule("a b", altOf(symBound("c", "R", number(1), e))) },
			} {
				takeBytes(t, "shown alike", with(e))
				for j, other := range row {
					if checkSameGrammar(t, "shown alike", with(e), with(other)) != (i == j) {
						t.Fatalf("%v and %v, of one row", e, other)
					}
				}
			}
		}
	}
}

// smallExprs are all of at most so many nodes, of 7, a, @, !, + and <.
func smallExprs(most int) []impl.Expr {
	all := []impl.Expr{}
	var grow func(e impl.Expr)
	grow = func(e impl.Expr) {
		at := len(e.Nodes)
		if at > 0 {
			all = append(all, e)
		}
		if at == most {
			return
		}
		for _, node := range []impl.ExNode{num(7), named("a"), hereNode()} {
			grow(more(e, node))
		}
		for left := range at {
			grow(more(e, not(left)))
			for right := range at {
				grow(more(e, pair(impl.ExAdd, left, right)))
				grow(more(e, pair(impl.ExLess, left, right)))
			}
		}
	}
	grow(impl.Expr{})
	return all
}

func TestEachSmallExpressionComesBackAsItself(t *testing.T) {
	texts := map[string]bool{}
	for _, e := range smallExprs(4) {
		text, ok := checkExprText(t, "small", e)
		if !ok || texts[text] {
			t.Fatalf("%v has the bytes %q, as another one", e, text)
		}
		texts[text] = true
	}
	// A node behind so many others is one of 3 by itself, a not of one of them, or one of 2 pairs of any two.
	if want := 3 + 3*6 + 3*6*13 + 3*6*13*24; len(texts) != want {
		t.Errorf("%d small expressions, not %d", len(texts), want)
	}
	for _, e := range smallExprs(3) {
		takeBytes(t, "small", paramRule("a", altOf(symIf(e))))
	}
}

func insideIs(t *testing.T, g impl.Grammar, inside string) {
	t.Helper()
	if got := takeBytes(t, "by hand", g); got != slowSealed(inside) {
		t.Errorf("GrammarText = %q, not %q and its sum, of\n%s", got, inside, plainPicture(g))
	}
}

func TestGrammarBytesByHand(t *testing.T) {
	insideIs(t, grammarOf(ruleOf("S", "", altOf())), "\x01\x01S\x00\x01\x00")
	insideIs(t, grammarOf(ruleOf("Abc9Z0", "", altOf(), altOf())), "\x01\x06Abc9Z0\x00\x02\x00\x00")
	insideIs(t, grammarOf(ruleOf("S", "", altOf(symText("a")))), "\x01\x01S\x00\x01\x01\x01\x01a\x00\x00")
	insideIs(t, grammarOf(ruleOf("S", "", altOf(symText("+-*^()[]")))), "\x01\x01S\x00\x01\x01\x01\x08+-*^()[]\x00\x00")
	insideIs(t, grammarOf(ruleOf("S", "", altOf(symSet("a-z0-9")))), "\x01\x01S\x00\x01\x01\x02\x06a-z0-9\x00\x00")
	insideIs(t, grammarOf(ruleOf("S", "", altOf(symCall("S")))), "\x01\x01S\x00\x01\x01\x03\x01S\x00\x00")
	insideIs(t, grammarOf(ruleOf("S", "", altOf(symBound("b", "S")))), "\x01\x01S\x00\x01\x01\x03\x01S\x01b\x00")
	insideIs(t, grammarOf(ruleOf("S", "", altOf(symBound("bbbb", "S")))), "\x01\x01S\x00\x01\x01\x03\x01S\x04bbbb\x00")
	insideIs(t, grammarOf(ruleOf("S", "", altOf(symIf(number(7))))), "\x01\x01S\x00\x01\x01\x04\x00\x00\x01\x04\x01\x01\x07\x00")
	insideIs(t, withinGrammar(), "\x01\x01S\x00\x02\x03\x01\x01a\x00\x00\x03\x01S\x00\x00\x01\x01b\x00\x00\x00")
	insideIs(t, grammarOf(ruleOf("S", "", altOf()), ruleOf("T", "", altOf(symCall("S")), altOf())),
		"\x02\x01S\x00\x01\x00\x01T\x00\x02\x01\x03\x01S\x00\x00\x00")
	insideIs(t, grammarOf(ruleOf("S", "", altOf()), ruleOf("T", "a bb", altOf(symCall("T", asked("bb"), number(0))))),
		"\x02\x01S\x00\x01\x00\x01T\x02\x01a\x02bb\x01\x01\x03\x01T\x00\x02\x06\x01\x02\x00\x02bb\x04\x01\x01\x00\x00")
	insideIs(t, eachThing(), ""+
		"\x03\x01S\x00\x01\x02"+"\x03\x01D\x01n\x00"+"\x03\x03Row\x00\x02\x05\x01\x02\x00\x01n\x08\x02\x03\x00\x00\x0b\x00\x00\x00"+
		"\x01D\x00\x03\x01"+"\x02\x030-9\x00\x00"+"\x02\x01\x01+\x00\x00"+"\x04\x00\x00\x01\x04\x01\x01\x63\x00"+"\x00"+
		"\x03Row\x02\x01k\x01n\x01\x02"+"\x04\x00\x00\x01\x0d\x03\x01\x00\x00\x02\x00\x01n\x08\x00\x00\x00\x01"+
		"\x03\x03Row\x01z\x02\x0e\x03\x02\x00\x01k\x02\x00\x01n\x04\x00\x00\x00\x01\x04\x01\x01\x07\x00")
}

// The four bytes of the sum are worked out by hand here, too.
func TestSealedGrammarsByHand(t *testing.T) {
	row := grammarOf(
		ruleOf("S", "", altOf(symBound("n", "D"), symCall("Row", asked("n")))),
		ruleOf("D", "", altOf(symSet("0-9"))),
		ruleOf("Row", "n", altOf(symIf(exprOf(named("n"), hereNode(), pair(impl.ExSame, 0, 1))))),
	)
	for _, c := range []struct {
		g    impl.Grammar
		text string
	}{
		{grammarOf(ruleOf("S", "", altOf())), "\x01\x01S\x00\x01\x00\x72\x88\x5c\x4f"},
		{withinGrammar(), "\x01\x01S\x00\x02\x03\x01\x01a\x00\x00\x03\x01S\x00\x00\x01\x01b\x00\x00\x00\x39\x2e\x6d\x61"},
		{row, "\x03\x01S\x00\x01\x02\x03\x01D\x01n\x00\x03\x03Row\x00\x01\x05\x01\x02\x00\x01n\x01D\x00\x01\x01\x02\x030-9\x00\x00\x03Row\x01\x01n\x01\x01\x04\x00\x00\x01\x0d\x03\x02\x00\x01n\x03\x00\x00\x09\x00\x00\x00\x01\xaf\xc5\x6d\x87"},
	} {
		if got := takeBytes(t, "by hand", c.g); got != c.text {
			t.Errorf("GrammarText = %q, not %q", got, c.text)
		}
		if back, ok := checkRead(t, "by hand", c.text); !ok || !slowSame(back, c.g) {
			t.Errorf("ReadGrammar(%q) = %v\n%s", c.text, ok, plainPicture(back))
		}
	}
}

func TestRightGrammarsComeBackFromTheirBytes(t *testing.T) {
	for what, g := range bytesGrammars(t) {
		takeBytes(t, what, g)
	}
}

func TestWhatIsReadStandsFieldByField(t *testing.T) {
	g, ok := impl.ReadGrammar(takeBytes(t, "each thing", eachThing()))
	if !ok || len(g.Rules) != 3 {
		t.Fatalf("%v, %v", ok, g)
	}
	first, second, third := g.Rules[0], g.Rules[1], g.Rules[2]
	if first.Name != "S" || second.Name != "D" || third.Name != "Row" {
		t.Errorf("Names %q %q %q", first.Name, second.Name, third.Name)
	}
	if len(first.Params) != 0 || len(second.Params) != 0 || !slices.Equal(third.Params, []string{"k", "n"}) {
		t.Errorf("Params %q %q %q", first.Params, second.Params, third.Params)
	}
	if len(first.Alts) != 1 || len(second.Alts) != 3 || len(third.Alts) != 1 {
		t.Fatalf("%d, %d and %d Alts", len(first.Alts), len(second.Alts), len(third.Alts))
	}
	if len(second.Alts[0].Syms) != 1 || len(second.Alts[1].Syms) != 2 || len(second.Alts[2].Syms) != 0 {
		t.Fatalf("the Alts of D are %v", second.Alts)
	}
	call := first.Alts[0].Syms[1]
	if call.Kind != impl.SyCall || call.Text != "Row" || call.Bind != "" || len(call.Args) != 2 {
		t.Fatalf("the call is %v", call)
	}
	if nodes := call.Args[1].Nodes; len(nodes) != 2 || nodes[0].Op != impl.ExHere || nodes[1].Op != impl.ExNot || !slices.Equal(nodes[1].Kids, []int{0}) {
		t.Errorf("its second Arg is %v", call.Args[1])
	}
	bound := third.Alts[0].Syms[1]
	if bound.Bind != "z" || len(bound.Args) != 2 || bound.Args[1].Nodes[0].Num != 7 || len(bound.Args[1].Nodes[0].Kids) != 0 {
		t.Fatalf("what is bound is %v", bound)
	}
	if nodes := bound.Args[0].Nodes; len(nodes) != 3 || nodes[0].Name != "k" || nodes[1].Name != "n" || !slices.Equal(nodes[2].Kids, []int{0, 1}) {
		t.Errorf("its first Arg is %v", bound.Args[0])
	}
}

// turnedGrammars are short, so that each bit of them can be turned.
func turnedGrammars() map[string]impl.Grammar {
	return map[string]impl.Grammar{
		"nothing": grammarOf(ruleOf("S", "", altOf())), "within": withinGrammar(), "each thing": eachThing(),
		"a length": lengthGrammar(), "operators": climbGrammar(), "five": manyRules(5), "bound": oneRule(altOf(symBound("b", "D"), symIf(asked("b")))),
	}
}

func TestWithOneByteTurnedTheyAreRefused(t *testing.T) {
	for what, g := range turnedGrammars() {
		text := takeBytes(t, what, g)
		for at := range len(text) {
			for turn := 1; turn < 256; turn++ {
				if got, ok := impl.ReadGrammar(withByte(text, at, text[at]^byte(turn))); ok || len(got.Rules) > 0 {
					t.Fatalf("%s: with %d turned at %d, %q is read as\n%s", what, turn, at, text, plainPicture(got))
				}
			}
		}
	}
}

func TestGreatGrammarsWithOneBitTurnedAreRefused(t *testing.T) {
	for _, length := range []int{5000, 19996} {
		text := takeBytes(t, "great", grammarOfBytes(length))
		for at := 0; at < len(text); at += 37 {
			if got, ok := impl.ReadGrammar(withByte(text, at, text[at]^byte(1<<(at%8)))); ok || len(got.Rules) > 0 {
				t.Fatalf("with a bit turned at %d, of %d, it is read", at, length)
			}
		}
	}
}

// Each byte of what is sealed is each other one, and that is sealed anew.
func TestOtherBytesSealedAnew(t *testing.T) {
	t.Parallel()
	taken := 0
	for what, g := range turnedGrammars() {
		inside := insideOf(g)
		for at := range len(inside) {
			for b := range 256 {
				_, ok := checkRead(t, what, slowSealed(withByte(inside, at, byte(b))))
				taken += oneOf(ok)
			}
		}
	}
	if taken < 2000 {
		t.Errorf("only %d were taken", taken)
	}
}

func TestBytesMoreOrLessSealedAnew(t *testing.T) {
	for what, g := range turnedGrammars() {
		inside := insideOf(g)
		for at := range len(inside) {
			refuseInside(t, what+", cut off", inside[:at])
			checkRead(t, what+", without its beginning", slowSealed(inside[at+1:]))
			checkRead(t, what+", without one", slowSealed(inside[:at]+inside[at+1:]))
			for _, b := range "\x00\x01\x02\x03\x7fSan" {
				checkRead(t, what+", with one more", slowSealed(inside[:at]+string(b)+inside[at:]))
			}
		}
		for b := range 256 {
			refuseInside(t, what+", with one behind", inside+string([]byte{byte(b)}))
		}
		refuseInside(t, what+", twice", inside+inside)
		refuseInside(t, what+", sealed twice", slowSealed(inside))
	}
}

func countNumbers(g impl.Grammar) int {
	form, count := plainForm(), 0
	form.number = func(n int) string {
		count++
		return varOf(uint64(n))
	}
	form.grammar(g)
	return count
}

// withNumber is the inside of a grammar with something else where one of its numbers stands.
func withNumber(g impl.Grammar, at int, other func(n int) string) string {
	form, met := plainForm(), 0
	form.number = func(n int) string {
		met++
		if met-1 == at {
			return other(n)
		}
		return varOf(uint64(n))
	}
	return form.grammar(g)
}

// longer is a number with needless noughts in higher places.
func longer(n int, noughts int) string {
	text := []byte(varOf(uint64(n)))
	for range noughts {
		text[len(text)-1] |= 128
		text = append(text, 0)
	}
	return string(text)
}

func TestNumbersInALongerForm(t *testing.T) {
	for what, g := range turnedGrammars() {
		for at := range countNumbers(g) {
			for noughts := 1; noughts <= 12; noughts++ {
				refuseInside(t, what, withNumber(g, at, func(n int) string { return longer(n, noughts) }))
			}
			refuseInside(t, what+", without an end", withNumber(g, at, func(n int) string { return "\xff\xff\xff\xff\xff\xff\xff\xff\xff\xff\xff" }))
		}
	}
}

// Each number is one that is not as many as there are: nowhere do bytes of another meaning stand behind them.
func TestOtherNumbersSealedAnew(t *testing.T) {
	for what, g := range turnedGrammars() {
		for at := range countNumbers(g) {
			for _, other := range []func(n int) int{
				func(n int) int { return n + 1 }, func(n int) int { return max(n-1, 0) }, func(n int) int { return n + 2 }, func(n int) int { return 2 * n },
			} {
				checkRead(t, what, slowSealed(withNumber(g, at, func(n int) string { return varOf(uint64(other(n))) })))
			}
			for _, great := range []uint64{100, 127, 128, 129, 255, 256, 16383, 16384, 19999, 20000, 20001, 2097152, 999999999, 1000000000, 1000000001, 1 << 32, 1 << 35, 1 << 62, 1 << 63, 1<<64 - 1} {
				refuseInside(t, fmt.Sprint(what, ", ", great), withNumber(g, at, func(n int) string { return varOf(great) }))
			}
		}
	}
}

func countSingles(g impl.Grammar) int {
	form, count := plainForm(), 0
	form.single = func(_ string, n int) string {
		count++
		return string([]byte{byte(n)})
	}
	form.grammar(g)
	return count
}

// A Kind, an Op or a Kid that is none makes it no grammar's; one that is another may be.
func TestOtherKindsAndOpsSealedAnew(t *testing.T) {
	taken := map[string]int{}
	for what, g := range turnedGrammars() {
		for at := range countSingles(g) {
			for b := range 256 {
				form, met, is, was := plainForm(), 0, "", 0
				form.single = func(what string, n int) string {
					met++
					if met-1 == at {
						is, was, n = what, n, b
					}
					return string([]byte{byte(n)})
				}
				sealed := slowSealed(form.grammar(g))
				_, ok := checkRead(t, what, sealed)
				switch {
				case b == was:
					if !ok {
						t.Fatalf("%s: %s as it is", what, is)
					}
				case is == "Kind" && (b < 1 || b > 4), is == "Op" && (b < 1 || b > 11), is == "Kid" && b > 19:
					if ok {
						t.Fatalf("%s: a %s of %d is taken", what, is, b)
					}
				default:
					taken[is] += oneOf(ok)
				}
			}
		}
	}
	if taken["Kind"] < 5 || taken["Op"] < 20 || taken["Kid"] < 5 {
		t.Errorf("others that were taken: %v", taken)
	}
}

// withArg is the inside of a grammar with something else for the text of each of its Args.
func withArg(g impl.Grammar, other func(text string) string) string {
	form := plainForm()
	form.arg = other
	return form.grammar(g)
}

func TestArgsThatAreNoExpressions(t *testing.T) {
	e := exprOf(named("a"), num(2), pair(impl.ExAdd, 0, 1), not(2))
	text, _ := checkExprText(t, "an Arg", e)
	for what, g := range map[string]impl.Grammar{
		"an SyIf": paramRule("a", altOf(symIf(e))), "a call": paramRule("a", altOf(symCall("N", e))),
		"behind others": paramRule("a", altOf(symText("b")), altOf(symCall("D"), symBound("n", "N", e), symIf(asked("n")))),
	} {
		takeBytes(t, what, g)
		for cut := range len(text) {
			refuseInside(t, what+", cut off", withArg(g, func(string) string { return text[:cut] }))
		}
		for b := range 256 {
			refuseInside(t, what+", with one behind", withArg(g, func(told string) string { return told + string([]byte{byte(b)}) }))
		}
		for _, other := range []string{
			"", "\x00", "\x00\x00", "\x01", "\x01\x00\x00\x00", "\x01\x0c\x00\x00", "\x01\xff\x00\x00", "\x01\x01\x64\x00", "\x01\x01\x80\x01\x00", "\x01\x01\x07\x01a",
			"\x01\x01\x80\x94\xeb\xdc\x03\x00", "\x01\x81\x00\x07\x00", "\x01\x02\x00\x00", "\x01\x02\x00\x05abcde", "\x01\x02\x01\x01a", "\x01\x02\x00\x01A",
			"\x01\x0b\x00\x00\x00", "\x02\x01\x00\x00\x0b\x00\x00\x01", "\x02\x01\x00\x00\x0b\x00\x00", "\x02\x01\x00\x00\x04\x00\x00\x00", "\x01\x02\x00\x01q",
			text + text, "\x15" + strings.Repeat("\x03\x00\x00", 21), "7", "(a + 2)", "\xff\xff\xff\xff\xff",
		} {
			refuseInside(t, what+", another text", withArg(g, func(string) string { return other }))
		}
		for _, other := range []string{"\x01\x01\x07\x00", "\x14" + strings.Repeat("\x03\x00\x00", 20), "\x02\x01\x00\x00\x0b\x00\x00\x00", "\x01\x01\x63\x00"} {
			if _, ok := checkRead(t, what, slowSealed(withArg(g, func(told string) string {
				if told != text {
					return told
				}
				return other
			}))); !ok {
				t.Errorf("%s: the Arg %q is refused", what, other)
			}
		}
	}
}

// fieldsInBytes tells whether each number of a grammar stands in its bytes as it is, so that its inside reads well.
func fieldsInBytes(g impl.Grammar) bool {
	in := func(n int) bool { return n >= 0 && n < 256 }
	for _, rule := range g.Rules {
		for _, alt := range rule.Alts {
			for _, sym := range alt.Syms {
				if !in(sym.Kind) {
					return false
				}
				for _, arg := range sym.Args {
					for _, n := range arg.Nodes {
						if !in(n.Op) || n.Num < 0 || n.Num > 1000000000 || slices.ContainsFunc(n.Kids, func(kid int) bool { return !in(kid) }) {
							return false
						}
					}
				}
			}
		}
	}
	return true
}

// wrongBytes are not right, for all kinds of reasons.
func wrongBytes() map[string]impl.Grammar {
	grammars := map[string]impl.Grammar{
		"31 rules": manyRules(31), "nine Alts": oneRule(slices.Repeat([]impl.Alt{altOf()}, 9)...),
		"nine Syms":                           oneRule(altOf(slices.Repeat([]impl.Sym{symText("a")}, 9)...)),
		"seven Params":                        paramRule("a b c d e f g", altOf()),
		"Params twice":                        paramRule("a a", altOf()),
		"Params down":                         paramRule("b a", altOf()),
		"a text of nine":                      oneRule(altOf(symText("aaaaaaaaa"))),
		"a text of none":                      oneRule(altOf(symText(""))),
		"a text with a |":                     oneRule(altOf(symText("|"))),
		"a text bound":                        oneRule(altOf(impl.Sym{Kind: impl.SyText, Text: "a", Bind: "b"})),
		"a text's Arg":                        oneRule(altOf(impl.Sym{Kind: impl.SyText, Text: "a", Args: numbers(1)})),
		"a set bound":                         oneRule(altOf(impl.Sym{Kind: impl.SySet, Text: "a", Bind: "b"})),
		"a set's Arg":                         oneRule(altOf(impl.Sym{Kind: impl.SySet, Text: "a", Args: numbers(1)})),
		"a wrong set":                         oneRule(altOf(symSet("b-a"))),
		"an open set":                         oneRule(altOf(symSet("a-"))),
		"a great set":                         oneRule(altOf(symSet("A-Z"))),
		"an SyIf bound":                       oneRule(altOf(impl.Sym{Kind: impl.SyIf, Args: numbers(1), Bind: "b"})),
		"an SyIf's Text":                      oneRule(altOf(impl.Sym{Kind: impl.SyIf, Args: numbers(1), Text: "D"})),
		"an SyIf of two":                      oneRule(altOf(impl.Sym{Kind: impl.SyIf, Args: numbers(2)})),
		"an Arg too many":                     oneRule(altOf(symCall("D", number(1)))),
		"bound twice":                         oneRule(altOf(symBound("b", "D"), symBound("b", "D"))),
		"a Param bound":                       paramRule("a", altOf(symBound("a", "D"))),
		"a Kind that is 1 in its lowest byte": oneRule(altOf(impl.Sym{Kind: 257, Text: "a"})),
		"a Kind that is 3 in its lowest byte": oneRule(altOf(impl.Sym{Kind: 3 - 256, Text: "D"})),
		"an Op that is 1 in its lowest byte":  oneRule(altOf(symIf(exprOf(impl.ExNode{Op: 257})))),
		"a Kid that is 0 in its lowest byte":  oneRule(altOf(symIf(exprOf(num(1), not(256))))),
		"a Num that is 0 in its lowest bytes": oneRule(altOf(symIf(number(1 << 32)))),
		"a Num of 100":                        oneRule(altOf(symIf(number(100)))),
		"a Num of 127":                        oneRule(altOf(symIf(number(127)))),
		"a Num of 128":                        oneRule(altOf(symIf(number(128)))),
		"a Num of MaxNumber":                  oneRule(altOf(symIf(number(1000000000)))),
		"a Num of -1":                         oneRule(altOf(symIf(number(-1)))),
		"a Kid not ahead":                     oneRule(altOf(symIf(exprOf(num(1), not(1))))),
		"21 nodes":                            oneRule(altOf(symIf(chain(21)))),
		"a Name of none":                      grammarOf(ruleOf("", "", altOf())),
		"a Name of seven":                     grammarOf(ruleOf("Seven77", "", altOf())),
		"a figure first":                      grammarOf(ruleOf("1S", "", altOf())),
		"a wrong byte":                        grammarOf(ruleOf("S\xff", "", altOf())),
	}
	for what, g := range wrongGrammars() {
		grammars["wrong: "+what] = g
	}
	for what, g := range oddGrammars() {
		grammars["odd: "+what] = g
	}
	return grammars
}

func TestWrongGrammarsHaveNoBytes(t *testing.T) {
	sealed := 0
	for what, g := range wrongBytes() {
		refuseBytes(t, what, g)
		if fieldsInBytes(g) {
			refuseInside(t, what, insideOf(g))
			sealed++
		}
	}
	if sealed < 45 {
		t.Errorf("only %d were sealed", sealed)
	}
}

func TestTextsThatAreNotSealed(t *testing.T) {
	for _, text := range []string{
		"", "\x00", "\x01", "S", "\x00\x00\x00", "\x00\x00\x00\x00", "\xff\xff\xff\xff", "\x00\x00\x00\x00\x00", "grammar", "S -> \"a\" ;", allBytes(), mixedText(500),
	} {
		refuseRead(t, "not sealed", text)
	}
	for what, g := range turnedGrammars() {
		text, inside := takeBytes(t, what, g), insideOf(g)
		refuseRead(t, what+", its inside", inside)
		refuseRead(t, what+", without a sum", inside+"\x00\x00\x00\x00")
		for cut := range len(text) {
			refuseRead(t, what+", cut off", text[:cut])
			refuseRead(t, what+", without its beginning", text[cut+1:])
		}
		refuseRead(t, what+", with one behind", text+"\x00")
		refuseRead(t, what+", with one ahead", "\x00"+text)
		refuseRead(t, what+", twice", text+text)
		ordersOf(text[len(inside):], func(order string) {
			if order != text[len(inside):] {
				refuseRead(t, what+", its sum in another order", inside+order)
			}
		})
	}
}

func TestSealedTextsThatAreNoGrammars(t *testing.T) {
	for _, inside := range []string{
		"", "\x00", "\x01", "S", "\x00\x00", "\x01\x00", "\x01\x00\x00\x00", "\x01\x01S", "\x01\x01S\x00", "\x01\x01S\x00\x00", "\x01\x01S\x00\x01",
		"\x02\x01S\x00\x01\x00", "\x00\x01S\x00\x01\x00", "\x01\x02S\x00\x01\x00", "\x01\x00S\x00\x01\x00", "\x01\x01S\x01\x01\x00", "\x01\x01S\x00\x02\x00", "\x01\x01S\x00\x01\x01",
		"\x01\x01s\x00\x09" + strings.Repeat("\x00", 9), "\x01\x01S\x00\x01\x09" + strings.Repeat("\x01\x01a\x00\x00", 9),
		"\x01\x01S\x01\x01a\x01\x00", "\x02\x01S\x00\x01\x00\x01S\x00\x01\x00", "grammar", "S -> \"a\" ;", allBytes(), mixedText(500), strings.Repeat("\x00", 19996), strings.Repeat("\x01", 19996), strings.Repeat("\xff", 19996), strings.Repeat("\x00", 20000),
		// Ever more of what takes few bytes.
		"\xa0\x9c\x01" + strings.Repeat("\x00", 19993), "\x01\x01S\x00\xa0\x9c\x01" + strings.Repeat("\x00", 19989), "\x01\x01S\xa0\x9c\x01" + strings.Repeat("\x00", 19990), "\x80\x94\xeb\xdc\x03" + strings.Repeat("\x00", 19991),
		"\x01\x01S\x00\x01\x80\x94\xeb\xdc\x03" + strings.Repeat("\x00", 1000), "\x01\x01S\x00\x01\x01\x04\x00\x00\x80\x94\xeb\xdc\x03" + strings.Repeat("\x01\x00", 1000),
	} {
		refuseInside(t, "no grammar", inside)
	}
	eight := "\x01\x01s\x00\x08" + strings.Repeat("\x00", 8)
	if _, ok := checkRead(t, "eight Alts", slowSealed(eight)); !ok {
		t.Error("eight Alts are refused")
	}
}

// All short texts over few bytes, each of them sealed.
func TestAllShortTextsSealed(t *testing.T) {
	taken := []string{}
	textsOf("\x00\x01\x02S", 8, func(inside string) {
		if _, ok := checkRead(t, "short", slowSealed(inside)); ok {
			taken = append(taken, fmt.Sprintf("%q", inside))
		}
	})
	want := []string{`"\x01\x01S\x00\x01\x00"`, `"\x01\x01S\x00\x02\x00\x00"`, `"\x01\x02SS\x00\x01\x00"`, `"\x01\x02SS\x00\x02\x00\x00"`}
	if slices.Sort(taken); !slices.Equal(taken, want) {
		t.Errorf("of short texts %s are taken, not %s", taken, want)
	}
}

// grammarOfBytes has just so many bytes ahead of its sum, from some 9500 to some 22000 of them, or fewer rules.
func grammarOfBytes(length int) impl.Grammar {
	g := impl.Grammar{}
	for len(g.Rules) < 30 && len(insideOf(g)) < length-500 {
		alts := []impl.Alt{}
		for range 8 {
			alts = append(alts, altOf(slices.Repeat([]impl.Sym{symText("a")}, 8)...))
		}
		g.Rules = append(g.Rules, ruleOf(fmt.Sprintf("R%d", len(g.Rules)), "", alts...))
	}
	missing := length - len(insideOf(g))
	for i := range g.Rules {
		for _, alt := range g.Rules[i].Alts {
			for k := range alt.Syms {
				more := min(missing, 7)
				alt.Syms[k].Text += strings.Repeat("b", more)
				missing -= more
			}
		}
	}
	if missing != 0 {
		panic(missing)
	}
	return g
}

func TestAsManyBytesAsThereMayBe(t *testing.T) {
	for _, length := range []int{5000, 10000, 16379, 16380, 16383, 16384, 19990, 19991, 19992, 19993, 19994, 19995, 19996} {
		g := grammarOfBytes(length)
		checkGrammar(t, "great", g)
		if text := takeBytes(t, fmt.Sprint(length), g); len(text) != length+4 {
			t.Errorf("%d bytes, and then %d with the sum", length, len(text))
		}
	}
	// The sum's four bytes count: ahead of it there may be 19996, whatever more may be sealed.
	for _, length := range []int{19997, 19998, 19999, 20000, 20001, 20002, 20003, 20004, 20005, 21000, 22000} {
		g := grammarOfBytes(length)
		checkGrammar(t, "too great", g)
		refuseBytes(t, fmt.Sprint(length), g)
		refuseInside(t, fmt.Sprint(length), insideOf(g))
	}
	// Far more, with Args as great as they may be.
	great := impl.Grammar{}
	for i := range 30 {
		rule := ruleOf(fmt.Sprintf("R%d", i), "", slices.Repeat([]impl.Alt{altOf(slices.Repeat([]impl.Sym{symIf(chain(20))}, 8)...)}, 8)...)
		great.Rules = append(great.Rules, rule)
	}
	refuseBytes(t, "far too many", great)
}

func TestAsManyThingsAsThereMayBe(t *testing.T) {
	eight := slices.Repeat([]impl.Alt{altOf(slices.Repeat([]impl.Sym{symText("a")}, 8)...)}, 8)
	takeBytes(t, "30 rules", manyRules(30))
	refuseBytes(t, "31 rules", manyRules(31))
	takeBytes(t, "eight Alts of eight Syms", oneRule(eight...))
	refuseBytes(t, "nine Alts", oneRule(append(eight, altOf())...))
	refuseBytes(t, "nine Syms", oneRule(altOf(slices.Repeat([]impl.Sym{symText("a")}, 9)...)))
	takeBytes(t, "six Params", paramRule("a b c d e f", altOf(symCall("R", numbers(6)...))))
	refuseBytes(t, "seven Params", paramRule("a b c d e f g", altOf(symCall("R", numbers(7)...))))
	takeBytes(t, "20 nodes", oneRule(altOf(symIf(chain(20)))))
	refuseBytes(t, "21 nodes", oneRule(altOf(symIf(chain(21)))))
	takeBytes(t, "names and Nums as great as they may be", grammarOf(
		ruleOf("Aaaaa9", "", altOf(symBound("zzzz", "Zzzzzz", number(99)), symIf(asked("zzzz")))),
		ruleOf("Zzzzzz", "zzzz", altOf(symText("zzzzzzzz")))))
	takeBytes(t, "all that may be known", paramRule("a b c", altOf(symBound("d", "D"), symBound("e", "D"), symBound("f", "D"), symIf(asked("f")))))
	refuseBytes(t, "one more known", paramRule("a b c", altOf(symBound("d", "D"), symBound("e", "D"), symBound("f", "D"), symBound("g", "D"))))
}

// exprOfBytes has just so many bytes, of names alone.
func exprOfBytes(length int) impl.Expr {
	e := impl.Expr{}
	for left := length - 1; left > 0; {
		size := min(left, 7)
		// What is left must be enough for a node of its own.
		if left-size > 0 && left-size < 4 {
			size = 4
		}
		e.Nodes = append(e.Nodes, named("aaaa"[:size-3]))
		left -= size
	}
	return e
}

// An Arg's length is a number of one byte up to 127, and of two from 128 on.
func TestArgsOfManyBytes(t *testing.T) {
	for length := 5; length <= 141; length++ {
		if length == 6 || length == 7 {
			length = 8
		}
		e := exprOfBytes(length)
		text, ok := checkExprText(t, "many bytes", e)
		if !ok || len(text) != length {
			t.Fatalf("ExprText(%v) = %q, %v, not of %d bytes", e, text, ok, length)
		}
		g := paramRule("a aa aaa aaaa", altOf(symIf(e)), altOf(symCall("N", e)))
		inside := takeBytes(t, fmt.Sprint(length), g)
		head := string([]byte{byte(length)})
		if length > 127 {
			head = string([]byte{byte(length), 1})
		}
		if strings.Count(inside, "\x01"+head+text) != 2 {
			t.Errorf("%d bytes: %q has %q not twice", length, inside, head+text)
		}
	}
}

// otherLists are one longer, one shorter, or have one thing that is another.
func otherLists[T any](list []T, spare T, others func(one T) []T) [][]T {
	lists := [][]T{append([]T{spare}, list...), append(slices.Clone(list), spare)}
	if len(list) > 0 {
		lists = append(lists, list[1:], list[:len(list)-1], nil, append(slices.Clone(list), list...))
	}
	for i, one := range list {
		for _, other := range others(one) {
			changed := slices.Clone(list)
			changed[i] = other
			lists = append(lists, changed)
		}
	}
	return lists
}

func otherInts(n int) []int { return []int{n + 1, n - 1, n + 256, n - 1<<32, ^n} }

func otherTexts(text string) []string {
	texts := []string{text + "x", "x" + text, text + "\x00"}
	if text != "" {
		texts = append(texts, text[1:], text[:len(text)-1], withByte(text, 0, text[0]^32), withByte(text, len(text)-1, text[len(text)-1]^1))
	}
	return texts
}

func otherNodes(n impl.ExNode) []impl.ExNode {
	nodes := []impl.ExNode{}
	for _, op := range otherInts(n.Op) {
		nodes = append(nodes, impl.ExNode{Op: op, Num: n.Num, Name: n.Name, Kids: n.Kids})
	}
	for _, num := range otherInts(n.Num) {
		nodes = append(nodes, impl.ExNode{Op: n.Op, Num: num, Name: n.Name, Kids: n.Kids})
	}
	for _, name := range otherTexts(n.Name) {
		nodes = append(nodes, impl.ExNode{Op: n.Op, Num: n.Num, Name: name, Kids: n.Kids})
	}
	for _, kids := range otherLists(n.Kids, 0, otherInts) {
		nodes = append(nodes, impl.ExNode{Op: n.Op, Num: n.Num, Name: n.Name, Kids: kids})
	}
	return nodes
}

func otherExprs(e impl.Expr) []impl.Expr {
	exprs := []impl.Expr{}
	for _, nodes := range otherLists(e.Nodes, num(3), otherNodes) {
		exprs = append(exprs, impl.Expr{Nodes: nodes})
	}
	return exprs
}

func otherSyms(s impl.Sym) []impl.Sym {
	syms := []impl.Sym{}
	for _, kind := range otherInts(s.Kind) {
		syms = append(syms, impl.Sym{Kind: kind, Text: s.Text, Args: s.Args, Bind: s.Bind})
	}
	for _, text := range otherTexts(s.Text) {
		syms = append(syms, impl.Sym{Kind: s.Kind, Text: text, Args: s.Args, Bind: s.Bind})
	}
	for _, bind := range otherTexts(s.Bind) {
		syms = append(syms, impl.Sym{Kind: s.Kind, Text: s.Text, Args: s.Args, Bind: bind})
	}
	for _, args := range otherLists(s.Args, number(3), otherExprs) {
		syms = append(syms, impl.Sym{Kind: s.Kind, Text: s.Text, Args: args, Bind: s.Bind})
	}
	return syms
}

func otherAlts(a impl.Alt) []impl.Alt {
	alts := []impl.Alt{}
	for _, syms := range otherLists(a.Syms, symText("x"), otherSyms) {
		alts = append(alts, impl.Alt{Syms: syms})
	}
	return alts
}

func otherRules(r impl.Rule) []impl.Rule {
	rules := []impl.Rule{}
	for _, name := range otherTexts(r.Name) {
		rules = append(rules, impl.Rule{Name: name, Params: r.Params, Alts: r.Alts})
	}
	for _, params := range otherLists(r.Params, "x", otherTexts) {
		rules = append(rules, impl.Rule{Name: r.Name, Params: params, Alts: r.Alts})
	}
	for _, alts := range otherLists(r.Alts, altOf(), otherAlts) {
		rules = append(rules, impl.Rule{Name: r.Name, Params: r.Params, Alts: alts})
	}
	return rules
}

// otherGrammars each differ in one field alone, or in the length of one list.
func otherGrammars(g impl.Grammar) []impl.Grammar {
	grammars := []impl.Grammar{}
	for _, rules := range otherLists(g.Rules, ruleOf("X", "", altOf()), otherRules) {
		grammars = append(grammars, impl.Grammar{Rules: rules})
	}
	return grammars
}

func TestGrammarsThatDifferInOneField(t *testing.T) {
	grammars := turnedGrammars()
	for what, g := range wrongGrammars() {
		grammars["wrong: "+what] = g
	}
	for what, g := range oddGrammars() {
		grammars["odd: "+what] = g
	}
	tried, right := 0, 0
	for what, g := range grammars {
		for _, other := range otherGrammars(g) {
			if checkSameGrammar(t, what, g, other) {
				t.Fatalf("%s: the same as another:\n%v\n%v", what, g, other)
			}
			_, ok := checkBytes(t, what, other)
			right += oneOf(ok)
			tried++
		}
		if !checkSameGrammar(t, what, g, roomyGrammar(g)) {
			t.Fatalf("%s: not the same in other memory:\n%v", what, g)
		}
	}
	if tried < 5000 || right < 500 {
		t.Errorf("%d others, of which %d are right", tried, right)
	}
}

// What stands in a list stands one place on, in the next list: nothing is the same any more.
func TestGrammarsWhoseThingsStandInOtherLists(t *testing.T) {
	a, b, c := symText("a"), symText("b"), symText("c")
	call := func(args ...impl.Expr) impl.Sym { return symCall("S", args...) }
	kids := func(first, second []int) impl.Grammar {
		return oneRule(altOf(symIf(exprOf(impl.ExNode{Op: 4, Kids: first}, impl.ExNode{Op: 4, Kids: second}))))
	}
	for what, two := range map[string][2]impl.Grammar{
		"Syms":            {oneRule(altOf(a, b), altOf(c)), oneRule(altOf(a), altOf(b, c))},
		"Syms and none":   {oneRule(altOf(a, b), altOf()), oneRule(altOf(), altOf(a, b))},
		"Alts":            {grammarOf(ruleOf("S", "", altOf(a), altOf(b)), ruleOf("T", "", altOf(c))), grammarOf(ruleOf("S", "", altOf(a)), ruleOf("T", "", altOf(b), altOf(c)))},
		"Params":          {paramRule("a b", altOf()), paramRule("ab", altOf())},
		"Params of two":   {grammarOf(ruleOf("S", "a b"), ruleOf("T", "c")), grammarOf(ruleOf("S", "a"), ruleOf("T", "b c"))},
		"Text and Bind":   {oneRule(altOf(impl.Sym{Text: "S"})), oneRule(altOf(impl.Sym{Bind: "S"}))},
		"Args":            {oneRule(altOf(call(number(1)), call(number(2)))), oneRule(altOf(call(), call(number(1), number(2))))},
		"nodes":           {oneRule(altOf(call(exprOf(num(1), num(2))))), oneRule(altOf(call(number(1), number(2))))},
		"Kids":            {kids([]int{0, 1}, []int{2}), kids([]int{0}, []int{1, 2})},
		"Kids turned":     {kids(nil, []int{0, 1}), kids(nil, []int{1, 0})},
		"Rules turned":    {grammarOf(ruleOf("S", "", altOf()), ruleOf("T", "", altOf())), grammarOf(ruleOf("T", "", altOf()), ruleOf("S", "", altOf()))},
		"Alts turned":     {oneRule(altOf(a), altOf(b)), oneRule(altOf(b), altOf(a))},
		"Syms turned":     {oneRule(altOf(a, b)), oneRule(altOf(b, a))},
		"Op and Num":      {oneRule(altOf(symIf(exprOf(impl.ExNode{Op: 1, Num: 2})))), oneRule(altOf(symIf(exprOf(impl.ExNode{Op: 2, Num: 1}))))},
		"a text or a set": {oneRule(altOf(symText("a"))), oneRule(altOf(symSet("a")))},
		"nothing":         {{}, grammarOf(impl.Rule{})},
	} {
		if checkSameGrammar(t, what, two[0], two[1]) {
			t.Errorf("%s: the same", what)
		}
		for _, g := range two {
			checkBytes(t, what, g)
		}
	}
}

// turnedEmpty has a list of nothing for each nil, and nil for each list of nothing.
func turnedEmpty(g impl.Grammar) impl.Grammar {
	other := impl.Grammar{Rules: turnedList(g.Rules)}
	for i, rule := range other.Rules {
		rule.Params, rule.Alts = turnedList(rule.Params), turnedList(rule.Alts)
		for j, alt := range rule.Alts {
			alt.Syms = turnedList(alt.Syms)
			for k, sym := range alt.Syms {
				sym.Args = turnedList(sym.Args)
				for l, arg := range sym.Args {
					arg.Nodes = turnedList(arg.Nodes)
					for m := range arg.Nodes {
						arg.Nodes[m].Kids = turnedList(arg.Nodes[m].Kids)
					}
					sym.Args[l] = arg
				}
				alt.Syms[k] = sym
			}
			rule.Alts[j] = alt
		}
		other.Rules[i] = rule
	}
	return other
}

func turnedList[T any](list []T) []T {
	if list == nil {
		return []T{}
	}
	if len(list) == 0 {
		return nil
	}
	return slices.Clone(list)
}

func TestListsOfNothingAreTheSame(t *testing.T) {
	grammars := bytesGrammars(t)
	for what, g := range wrongBytes() {
		grammars["wrong: "+what] = g
	}
	for what, g := range grammars {
		other := turnedEmpty(g)
		if !checkSameGrammar(t, what, g, other) || !checkSameGrammar(t, what, other, turnedEmpty(other)) {
			t.Errorf("%s: lists of nothing are not the same as none", what)
		}
		text, ok := checkBytes(t, what, g)
		if again, right := checkBytes(t, what, other); again != text || right != ok {
			t.Errorf("%s: lists of nothing have other bytes than none", what)
		}
	}
	if !checkSameGrammar(t, "nothing", impl.Grammar{}, impl.Grammar{Rules: []impl.Rule{}}) {
		t.Error("nothing is not the same as nothing")
	}
}

func TestTheSameJustWhenTheirBytesAre(t *testing.T) {
	grammars, texts := []impl.Grammar{}, []string{}
	add := func(g impl.Grammar) {
		if text, ok := checkBytes(t, "one of many", g); ok {
			grammars, texts = append(grammars, g), append(texts, text)
		}
	}
	for _, g := range turnedGrammars() {
		add(g)
		add(roomyGrammar(g))
		add(turnedEmpty(g))
	}
	for _, g := range otherGrammars(eachThing()) {
		add(g)
	}
	for _, row := range shownAlike() {
		for _, e := range row {
			add(paramRule("a b", altOf(symIf(e))))
		}
	}
	for seed := range 150 {
		add(smallGrammar(seeded(seed)))
		add(smallGrammar(seeded(seed)))
	}
	same := 0
	for i, g := range grammars {
		for j, other := range grammars {
			if impl.SameGrammar(g, other) != (texts[i] == texts[j]) {
				t.Fatalf("%q and %q", texts[i], texts[j])
			}
			same += oneOf(i != j && texts[i] == texts[j])
		}
	}
	if len(grammars) < 400 || same < 300 {
		t.Errorf("%d grammars, %d times the same as another", len(grammars), same)
	}
}

func TestBytesOfManySeeds(t *testing.T) {
	const seeds = 3000
	right, last := 0, impl.Grammar{}
	for seed := range seeds {
		next := seeded(seed)
		g := someGrammar(next)
		for range 3 {
			_, ok := checkBytes(t, fmt.Sprint("seed ", seed), g)
			right += oneOf(ok)
			if !ok && fieldsInBytes(g) {
				refuseInside(t, fmt.Sprint("seed ", seed), insideOf(g))
			}
			checkSameGrammar(t, fmt.Sprint("seed ", seed), g, last)
			last = roomyGrammar(g)
			spoil(next, &g)
			checkSameGrammar(t, fmt.Sprint("seed ", seed), g, last)
		}
	}
	if right < seeds/2 || right > 2*seeds {
		t.Errorf("of %d, %d are right", 3*seeds, right)
	}
}

// spoilText changes some bytes, or leaves some away, or has some twice, or in another place.
func spoilText(next func(n int) int, text string) string {
	for range 1 + next(2) {
		if text == "" {
			return text
		}
		from := next(len(text))
		to := from + next(min(8, len(text)-from+1))
		at := next(len(text))
		switch next(7) {
		case 0:
			text = withByte(text, at, byte(next(256)))
		case 1:
			text = withByte(text, at, byte(next(6)))
		case 2:
			text = withByte(text, at, text[at]+byte(next(3))-1)
		case 3:
			text = text[:from] + text[to:]
		case 4:
			text = text[:to] + text[from:]
		case 5:
			text = text[:at] + text[from:to] + text[at:]
		case 6:
			text = text[:at] + string([]byte{byte(next(12))}) + text[at:]
		}
	}
	return text
}

func TestSpoiltBytesOfManySeeds(t *testing.T) {
	t.Parallel()
	const seeds = 60000
	taken := 0
	for seed := range seeds {
		next := seeded(seed)
		g := smallGrammar(next)
		spoilt := spoilText(next, insideOf(g))
		got, ok := checkRead(t, fmt.Sprint("seed ", seed), slowSealed(spoilt))
		if ok && slowSame(got, g) != (spoilt == insideOf(g)) {
			t.Fatalf("seed %d: %q and %q are the same", seed, spoilt, insideOf(g))
		}
		taken += oneOf(ok && spoilt != insideOf(g))
	}
	if taken < seeds/100 {
		t.Errorf("of %d only %d were taken", seeds, taken)
	}
}

// bytesApart asks all four of a grammar in memory of its own.
func bytesApart(t *testing.T, what string, plain impl.Grammar) {
	t.Helper()
	g, other := roomyGrammar(plain), roomyGrammar(plain)
	before, otherBefore := grammarPicture(g), grammarPicture(other)
	_, texts := grammarStretches(g)
	text, ok := impl.GrammarText(g)
	same := impl.SameGrammar(g, other)
	checkApart(t, what, []stretch{textStretch(text)}, texts)
	for _, rule := range g.Rules {
		for _, alt := range rule.Alts {
			for _, sym := range alt.Syms {
				for _, arg := range sym.Args {
					told, right := impl.ExprText(arg)
					checkApart(t, what, []stretch{textStretch(told)}, texts)
					if want, ok := slowExprText(arg); told != want || ok != right {
						t.Fatalf("%s: with spare room behind its lists ExprText(%v) = %q, %v", what, arg, told, right)
					}
				}
			}
		}
	}
	if grammarPicture(g) != before || grammarPicture(other) != otherBefore {
		t.Fatalf("%s: an argument is changed:\n%s\nwas\n%s", what, grammarPicture(g), before)
	}
	// The room behind the lists is not looked at.
	if want, right := slowGrammarText(plain); text != want || ok != right || !same {
		t.Fatalf("%s: with spare room behind its lists GrammarText = %q, %v", what, text, ok)
	}
	if ok {
		readApart(t, what, text)
	}
}

// readApart reads from bytes that are written over afterwards.
func readApart(t *testing.T, what, plain string) {
	t.Helper()
	bytes := []byte(plain)
	text := unsafe.String(unsafe.SliceData(bytes), len(bytes))
	g, ok := impl.ReadGrammar(text)
	again, okAgain := impl.ReadGrammar(text)
	if !ok || !okAgain || string(bytes) != plain {
		t.Fatalf("%s: ReadGrammar is false, or has changed its argument", what)
	}
	lists, texts := grammarStretches(g)
	others, _ := grammarStretches(again)
	checkApart(t, what, texts, []stretch{textStretch(text)})
	checkApart(t, what, lists, append(others, textStretch(text)))
	checkEachApart(t, what, lists)
	for i := range bytes {
		bytes[i] = 'x'
	}
	if written, _ := impl.GrammarText(g); written != plain || !impl.SameGrammar(g, again) {
		t.Fatalf("%s: what was read hangs on the bytes that it was read from", what)
	}
}

func TestBytesShareNoMemory(t *testing.T) {
	grammars := bytesGrammars(t)
	for what, g := range wrongBytes() {
		grammars["wrong: "+what] = g
	}
	for seed := range 100 {
		grammars[fmt.Sprint("seed ", seed)] = smallGrammar(seeded(seed))
		grammars[fmt.Sprint("some ", seed)] = someGrammar(seeded(seed))
	}
	for what, g := range grammars {
		bytesApart(t, what, g)
	}
	someExprs(3, func(plain impl.Expr) {
		e, all := roomyExpr(plain)
		before := pictureOf(all)
		text, ok := impl.ExprText(e)
		if want, _ := slowExprText(plain); !ok || text != want || pictureOf(all) != before {
			t.Fatalf("with spare room behind its lists ExprText(%v) = %q, %v", plain, text, ok)
		}
	})
}

func TestRoomBehindListsHasNoBytes(t *testing.T) {
	rules := []impl.Rule{ruleOf("S", "", altOf(symText("a")), altOf(symCall("T"))), ruleOf("T", "", altOf(symText("b")))}
	refuseBytes(t, "a call of a rule behind the list", impl.Grammar{Rules: rules[:1]})
	rules[0].Alts = rules[0].Alts[:1]
	insideIs(t, impl.Grammar{Rules: rules[:1]}, "\x01\x01S\x00\x01\x01\x01\x01a\x00\x00")
	nodes := []impl.ExNode{num(1), not(0), not(1)}
	exprBytesAre(t, impl.Expr{Nodes: nodes[:1]}, "\x01\x01\x01\x00")
	kids := []int{0, 0, 0}
	exprBytesAre(t, exprOf(num(1), impl.ExNode{Op: impl.ExNot, Kids: kids[:1]}), "\x02\x01\x01\x00\x0b\x00\x00\x00")
	if !checkSameGrammar(t, "other rules behind the list", impl.Grammar{Rules: rules[:1]}, grammarOf(rules[0])) {
		t.Error("other rules behind the list make it another grammar")
	}
}

func TestBytesAnswerTheSameAgain(t *testing.T) {
	g := eachThing()
	text := takeBytes(t, "again", g)
	for range 100 {
		back, ok := checkRead(t, "again", text)
		if !ok || !checkSameGrammar(t, "again", g, back) {
			t.Fatal("another time another grammar")
		}
		refuseInside(t, "again", "\x01\x01S\x00\x01")
		refuseBytes(t, "again", manyRules(31))
		refuseExprText(t, "again", number(100))
		exprBytesAre(t, number(7), "\x01\x01\x07\x00")
		// What was answered may be written over.
		for i := range back.Rules {
			for j := range back.Rules[i].Alts {
				for k := range back.Rules[i].Alts[j].Syms {
					back.Rules[i].Alts[j].Syms[k] = impl.Sym{Kind: 77, Text: "over"}
				}
			}
			clear(back.Rules[i].Params)
			back.Rules[i].Name = "over"
		}
	}
}

// What is far too great is answered, and soon.
func TestHugeBytes(t *testing.T) {
	huge := strings.Repeat("\x01", 30000000)
	for _, text := range []string{huge, huge[:20001], strings.Repeat("\x00", 20001)} {
		if g, ok := impl.ReadGrammar(text); ok || len(g.Rules) > 0 {
			t.Error("a text that is too long is read")
		}
	}
	many := slices.Repeat([]impl.Sym{symText("a")}, 1000000)
	alts := slices.Repeat([]impl.Alt{altOf()}, 1000000)
	nodes := impl.Expr{Nodes: slices.Repeat([]impl.ExNode{num(1)}, 1000000)}
	for what, g := range map[string]impl.Grammar{
		"many rules": manyRules(100000), "many Alts": grammarOf(ruleOf("S", "", alts...)), "many Syms": grammarOf(ruleOf("S", "", altOf(many...))),
		"many nodes": grammarOf(ruleOf("S", "", altOf(symIf(nodes)))), "a long Name": grammarOf(ruleOf(huge, "", altOf())), "a long Text": grammarOf(ruleOf("S", "", altOf(symText(huge)))),
		"many Params": grammarOf(ruleOf("S", "", altOf()), impl.Rule{Name: "T", Params: slices.Repeat([]string{"a"}, 1000000), Alts: []impl.Alt{altOf()}}),
		"many Args":   grammarOf(ruleOf("S", "", altOf(symCall("S", slices.Repeat([]impl.Expr{number(1)}, 1000000)...)))),
	} {
		if text, ok := impl.GrammarText(g); ok || text != "" {
			t.Errorf("%s have bytes", what)
		}
		other := grammarOf(slices.Clone(g.Rules)...)
		if !impl.SameGrammar(g, other) {
			t.Errorf("%s are not the same", what)
		}
		other.Rules[len(other.Rules)-1].Alts = append(slices.Clone(other.Rules[len(other.Rules)-1].Alts), altOf())
		if impl.SameGrammar(g, other) {
			t.Errorf("%s are the same as with one Alt more", what)
		}
	}
	refuseExprText(t, "a long Name", asked(huge[:1000000]))
	if text, ok := impl.ExprText(nodes); ok || text != "" {
		t.Error("many nodes have bytes")
	}
}
