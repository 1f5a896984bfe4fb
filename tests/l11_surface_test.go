package tests

import (
	"fmt"
	"maps"
	"regexp"
	"slices"
	"strings"
	"testing"
	"unsafe"

	"loop.example/g00243/impl"
)

var namedAsGroup = regexp.MustCompile(`\Ax[0-9]`)

// thing is a node with those below it, which has no place yet.
type thing struct {
	node impl.SNode
	kids []thing
}

func aText(text string) thing { return thing{node: impl.SNode{Kind: impl.SnText, Text: text}} }

func aSet(set string) thing { return thing{node: impl.SNode{Kind: impl.SnSet, Text: set}} }

func aCall(name string, args ...impl.Expr) thing { return aBind("", name, args...) }

func aBind(bind, name string, args ...impl.Expr) thing {
	return thing{node: impl.SNode{Kind: impl.SnCall, Text: name, Args: args, Bind: bind}}
}

func anIf(e impl.Expr) thing {
	return thing{node: impl.SNode{Kind: impl.SnIf, Args: []impl.Expr{e}}}
}

func aRow(things ...thing) thing { return thing{impl.SNode{Kind: impl.SnRow}, things} }

func aGroup(rows ...thing) thing { return thing{impl.SNode{Kind: impl.SnAlt}, rows} }

// signed is a group with the sign of this Kind; of SnAlt it has none.
func signed(kind int, rows ...thing) thing {
	if kind == impl.SnAlt {
		return aGroup(rows...)
	}
	return thing{impl.SNode{Kind: kind}, []thing{aGroup(rows...)}}
}

func aStar(rows ...thing) thing { return signed(impl.SnStar, rows...) }

func aPlus(rows ...thing) thing { return signed(impl.SnPlus, rows...) }

func anOpt(rows ...thing) thing { return signed(impl.SnOpt, rows...) }

func groupKinds() []int { return []int{impl.SnAlt, impl.SnStar, impl.SnPlus, impl.SnOpt} }

type writtenRule struct {
	name   string
	params []string
	body   thing
}

// aRule has the names that params tells, with blanks between, as Params.
func aRule(name, params string, rows ...thing) writtenRule {
	return writtenRule{name, strings.Fields(params), aGroup(rows...)}
}

// laid puts the node behind all that are below it: in the order in which they end.
func laid(nodes *[]impl.SNode, t thing) int {
	node := t.node
	for _, kid := range t.kids {
		node.Kids = append(node.Kids, laid(nodes, kid))
	}
	*nodes = append(*nodes, node)
	return len(*nodes) - 1
}

func surfaceOf(rules ...writtenRule) impl.Surface {
	s := impl.Surface{}
	for _, rule := range rules {
		body := laid(&s.Nodes, rule.body)
		s.Rules = append(s.Rules, impl.SRule{Name: rule.name, Params: rule.params, Body: body})
	}
	return s
}

// helped is a grammar of these rules, and beside them D, which takes a figure, and N, which has a Param.
func helped(rules ...writtenRule) impl.Surface {
	return surfaceOf(append(rules, aRule("D", "", aRow(aSet("0-9"))), aRule("N", "n", aRow(anIf(asked("n")))))...)
}

func oneBody(rows ...thing) impl.Surface { return helped(aRule("S", "", rows...)) }

func paramBody(params string, rows ...thing) impl.Surface {
	return helped(aRule("S", "", aRow()), aRule("R", params, rows...))
}

func repeated(count int, t thing) []thing { return slices.Repeat([]thing{t}, count) }

// nested is a row that has so many groups, one in the other, around the inner one.
func nested(count int, kind int, inner thing) thing {
	row := inner
	for range count {
		row = aRow(signed(kind, row))
	}
	return row
}

// parentsOf has of each node the places of those that have it as a Kid, as often as they do.
func parentsOf(s impl.Surface) map[int][]int {
	parents := map[int][]int{}
	for at, node := range s.Nodes {
		for _, kid := range node.Kids {
			parents[kid] = append(parents[kid], at)
		}
	}
	return parents
}

func slowKindOk(nodes []impl.SNode, at int) bool {
	node := nodes[at]
	kinds := map[int]int{}
	for _, kid := range node.Kids {
		if kid < 0 || kid >= at {
			return false
		}
		kinds[nodes[kid].Kind]++
	}
	count := len(node.Kids)
	bare := node.Text == "" && node.Bind == "" && len(node.Args) == 0
	switch node.Kind {
	case 1, 2, 3, 4:
		return count == 0
	case 5:
		return bare && count <= 8 && kinds[5] == 0
	case 6:
		return bare && count > 0 && count <= 8 && kinds[5] == count
	case 7, 8, 9:
		return bare && count == 1 && kinds[6] == 1
	}
	return false
}

// slowKnownAt climbs up from a thing, and gathers what stands ahead of it and of all that it is below.
func slowKnownAt(s impl.Surface, at int) []string {
	parents, names := parentsOf(s), []string{}
	for len(parents[at]) > 0 {
		above := parents[at][0]
		if s.Nodes[above].Kind == impl.SnRow {
			for _, kid := range s.Nodes[above].Kids[:slices.Index(s.Nodes[above].Kids, at)] {
				if bind := s.Nodes[kid].Bind; bind != "" {
					names = append(names, bind)
				}
			}
		}
		at = above
	}
	for _, rule := range s.Rules {
		if rule.Body == at {
			names = append(names, rule.Params...)
		}
	}
	return names
}

// slowThingOk asks as GrammarOk would of a rule that has the thing alone, with all that is known as Params.
func slowThingOk(s impl.Surface, at int) bool {
	g := impl.Grammar{}
	for _, rule := range s.Rules {
		g.Rules = append(g.Rules, impl.Rule{Name: rule.Name, Params: rule.Params})
	}
	node, known := s.Nodes[at], slowKnownAt(s, at)
	sym := impl.Sym{Kind: node.Kind, Text: node.Text, Args: node.Args, Bind: node.Bind}
	return slowSymOk(g, impl.Rule{Params: known}, altOf(sym), 0)
}

// slowMayBePlain tells by numbers alone what Flatten would have too much of.
func slowMayBePlain(s impl.Surface) bool {
	parents, rules := parentsOf(s), len(s.Rules)
	for _, rule := range s.Rules {
		if namedAsGroup.MatchString(rule.Name) {
			return false
		}
	}
	for at, node := range s.Nodes {
		if node.Kind < impl.SnAlt {
			continue
		}
		if len(parents[at]) > 0 && s.Nodes[parents[at][0]].Kind == impl.SnRow {
			rules++
		}
		if node.Kind == impl.SnAlt {
			continue
		}
		rows := s.Nodes[node.Kids[0]].Kids
		most := map[int]int{impl.SnStar: 7, impl.SnPlus: 4, impl.SnOpt: 7}[node.Kind]
		if len(rows) > most {
			return false
		}
		for _, row := range rows {
			if node.Kind != impl.SnOpt && len(s.Nodes[row].Kids) > 7 {
				return false
			}
		}
	}
	return rules <= 30
}

func slowHeadsOk(s impl.Surface) bool {
	names := map[string]bool{}
	for i, rule := range s.Rules {
		if names[rule.Name] || !wholeRuleName.MatchString(rule.Name) || len(rule.Params) > 6 || i == 0 && len(rule.Params) > 0 {
			return false
		}
		names[rule.Name] = true
		if !slices.IsSorted(rule.Params) || len(slices.Compact(slices.Clone(rule.Params))) < len(rule.Params) {
			return false
		}
		if slices.ContainsFunc(rule.Params, func(param string) bool { return !slowVarName(param) }) {
			return false
		}
	}
	return len(s.Rules) >= 1 && len(s.Rules) <= 8
}

// slowSurfaceOk asks node by node, and of each thing gathers anew what is known there.
func slowSurfaceOk(s impl.Surface) bool {
	if len(s.Nodes) > 120 || !slowHeadsOk(s) {
		return false
	}
	bodies := map[int]int{}
	for _, rule := range s.Rules {
		bodies[rule.Body]++
		if rule.Body < 0 || rule.Body >= len(s.Nodes) || s.Nodes[rule.Body].Kind != impl.SnAlt {
			return false
		}
	}
	parents := parentsOf(s)
	for at := range s.Nodes {
		if !slowKindOk(s.Nodes, at) || len(parents[at])+bodies[at] != 1 {
			return false
		}
	}
	for at, node := range s.Nodes {
		if node.Kind <= impl.SnIf && !slowThingOk(s, at) {
			return false
		}
	}
	return slowMayBePlain(s)
}

func slowShowThing(s impl.Surface, at int) string {
	node, below, between := s.Nodes[at], []string{}, " "
	for _, kid := range node.Kids {
		below = append(below, slowShowThing(s, kid))
	}
	args := []string{}
	for _, arg := range node.Args {
		args = append(args, slowShow(arg))
	}
	switch node.Kind {
	case impl.SnText:
		return fmt.Sprintf("%c%s%c", '"', node.Text, '"')
	case impl.SnSet:
		return fmt.Sprintf("[%s]", node.Text)
	case impl.SnIf:
		return fmt.Sprintf("{ %s }", args[0])
	case impl.SnCall:
		told := node.Text
		if len(args) > 0 {
			told = fmt.Sprintf("%s(%s)", told, strings.Join(args, ","))
		}
		return strings.TrimPrefix(node.Bind+":"+told, ":")
	case impl.SnStar, impl.SnPlus, impl.SnOpt:
		return fmt.Sprintf("%s%c", below[0], "*+?"[node.Kind-7])
	case impl.SnAlt:
		between = " | "
	}
	told := strings.Join(below, between)
	for _, parent := range parentsOf(s)[at] {
		if node.Kind == impl.SnAlt && parent >= 0 {
			told = fmt.Sprintf("( %s )", told)
		}
	}
	return told
}

func slowShowSurface(s impl.Surface) string {
	lines := ""
	for _, rule := range s.Rules {
		params := strings.Join(rule.Params, ",")
		if params != "" {
			params = "(" + params + ")"
		}
		lines += fmt.Sprintf("%s%s -> %s ;\n", rule.Name, params, slowShowThing(s, rule.Body))
	}
	return lines
}

// slowTold is what was read: a thing or none, and how deep it is nested.
type slowTold struct {
	thing thing
	depth int
	ok    bool
}

func isSign(token impl.Token, signs string) bool {
	return token.Kind == impl.ToSign && len(token.Text) == 1 && strings.Contains(signs, token.Text)
}

// outerSigns has the places of these signs that are in no parentheses; none at all, when those are not even.
func outerSigns(tokens []impl.Token, signs string) []int {
	places, open := []int{}, 0
	for i, token := range tokens {
		if isSign(token, ")") {
			if open--; open < 0 {
				return nil
			}
		}
		if open == 0 && isSign(token, signs) {
			places = append(places, i)
		}
		if isSign(token, "(") || token.Kind == impl.ToOpen {
			open++
		}
	}
	if open > 0 {
		return nil
	}
	return places
}

// piecesOf cuts the tokens at this sign, where it is in no parentheses.
func piecesOf(tokens []impl.Token, sign string) [][]impl.Token {
	pieces, from := [][]impl.Token{}, 0
	for _, at := range outerSigns(tokens, sign) {
		pieces, from = append(pieces, tokens[from:at]), at+1
	}
	return append(pieces, tokens[from:])
}

// closedAt is the place of the parenthesis that closes the one just ahead of from; -1 without one.
func closedAt(tokens []impl.Token, from int) int {
	open := 1
	for i := from; i < len(tokens); i++ {
		if isSign(tokens[i], "(") || tokens[i].Kind == impl.ToOpen {
			open++
		}
		if isSign(tokens[i], ")") {
			open--
		}
		if open == 0 {
			return i
		}
	}
	return -1
}

// slowOperators: what binds least comes first; of one level the last sign is the whole's.
var slowOperators = []string{"&", "<=", "+-", "*/"}

// slowReadExpr cuts at the sign that binds least; it tells the place of the whole, and how deep that is.
func slowReadExpr(e *impl.Expr, tokens []impl.Token) (int, int, bool) {
	at, depth, ok := slowReadLevel(e, tokens, 0)
	return at, depth + 1, ok
}

func slowReadLevel(e *impl.Expr, tokens []impl.Token, level int) (int, int, bool) {
	if level == len(slowOperators) {
		return slowReadSimple(e, tokens)
	}
	signs := slowOperators[level]
	places := outerSigns(tokens, signs)
	if len(places) == 0 {
		return slowReadLevel(e, tokens, level+1)
	}
	if signs == "<=" && len(places) > 1 {
		return 0, 0, false
	}
	cut := places[len(places)-1]
	left, leftDepth, leftOk := slowReadLevel(e, tokens[:cut], level)
	right, rightDepth, rightOk := slowReadLevel(e, tokens[cut+1:], level+1)
	op := 4 + strings.Index("+-*/<=&", tokens[cut].Text)
	e.Nodes = append(e.Nodes, pair(op, left, right))
	return len(e.Nodes) - 1, max(leftDepth, rightDepth), leftOk && rightOk
}

func slowReadSimple(e *impl.Expr, tokens []impl.Token) (int, int, bool) {
	last := len(tokens) - 1
	switch {
	case last < 0:
		return 0, 0, false
	case isSign(tokens[0], "!"):
		of, depth, ok := slowReadSimple(e, tokens[1:])
		e.Nodes = append(e.Nodes, not(of))
		return len(e.Nodes) - 1, depth + 1, ok
	case isSign(tokens[0], "(") && closedAt(tokens, 1) == last:
		at, depth, ok := slowReadExpr(e, tokens[1:last])
		return at, depth + 1, ok
	case last > 0:
		return 0, 0, false
	case isSign(tokens[0], "@"):
		e.Nodes = append(e.Nodes, hereNode())
	case tokens[0].Kind == impl.ToName:
		e.Nodes = append(e.Nodes, named(tokens[0].Text))
	case tokens[0].Kind == impl.ToNum:
		n := 0
		fmt.Sscanf(tokens[0].Text, "%d", &n)
		e.Nodes = append(e.Nodes, num(n))
	default:
		return 0, 0, false
	}
	return len(e.Nodes) - 1, 1, true
}

func slowWholeExpr(tokens []impl.Token) (impl.Expr, int, bool) {
	e := impl.Expr{}
	_, depth, ok := slowReadExpr(&e, tokens)
	return e, depth, ok
}

func slowReadRows(tokens []impl.Token) slowTold {
	told := slowTold{aGroup(), 0, true}
	for _, piece := range piecesOf(tokens, "|") {
		row := slowReadRow(piece)
		told.thing.kids = append(told.thing.kids, row.thing)
		told.depth, told.ok = max(told.depth, row.depth), told.ok && row.ok
	}
	told.depth++
	return told
}

func slowReadRow(tokens []impl.Token) slowTold {
	told := slowTold{aRow(), 0, true}
	for len(tokens) > 0 {
		one, took := slowReadThing(tokens)
		if !one.ok {
			return slowTold{}
		}
		told.thing.kids = append(told.thing.kids, one.thing)
		told.depth = max(told.depth, one.depth)
		tokens = tokens[took:]
	}
	return told
}

// slowReadThing tells how many tokens the thing takes, too.
func slowReadThing(tokens []impl.Token) (slowTold, int) {
	first := tokens[0]
	switch {
	case first.Kind == impl.ToText:
		return slowTold{aText(first.Text), 0, true}, 1
	case first.Kind == impl.ToSet:
		return slowTold{aSet(first.Text), 0, true}, 1
	case isSign(first, "{"):
		end := slices.IndexFunc(tokens, func(token impl.Token) bool { return isSign(token, "}") })
		if end < 0 {
			return slowTold{}, 0
		}
		e, depth, ok := slowWholeExpr(tokens[1:end])
		return slowTold{anIf(e), depth, ok}, end + 1
	case isSign(first, "("):
		end := closedAt(tokens, 1)
		if end < 0 {
			return slowTold{}, 0
		}
		told := slowReadRows(tokens[1:end])
		if end+1 < len(tokens) && isSign(tokens[end+1], "*+?") {
			told.thing = signed(7+strings.Index("*+?", tokens[end+1].Text), told.thing.kids...)
			end++
		}
		return told, end + 1
	case first.Kind == impl.ToName && len(tokens) > 2 && isSign(tokens[1], ":"):
		told, took := slowReadCall(tokens[2:])
		told.thing.node.Bind = first.Text
		return told, took + 2
	}
	return slowReadCall(tokens)
}

func slowReadCall(tokens []impl.Token) (slowTold, int) {
	if tokens[0].Kind == impl.ToName {
		return slowTold{aCall(tokens[0].Text), 0, true}, 1
	}
	end := closedAt(tokens, 1)
	if tokens[0].Kind != impl.ToOpen || end < 0 {
		return slowTold{}, 0
	}
	told := slowTold{aCall(tokens[0].Text), 0, true}
	for _, piece := range piecesOf(tokens[1:end], ",") {
		e, depth, ok := slowWholeExpr(piece)
		told.thing.node.Args = append(told.thing.node.Args, e)
		told.depth, told.ok = max(told.depth, depth), told.ok && ok
	}
	return told, end + 1
}

var slowHeadForm = regexp.MustCompile(`\A(\w+)(?:\( (\w+(?: , \w+)*) \))? -> `)

// slowReadHead looks at the head as a text: its tokens with blanks between.
func slowReadHead(tokens []impl.Token) (writtenRule, []impl.Token, bool) {
	told := ""
	for _, token := range tokens {
		if told += written(token) + " "; token.Text == "->" && token.Kind == impl.ToSign {
			break
		}
	}
	found := slowHeadForm.FindStringSubmatch(told)
	if found == nil || len(tokens) == 0 || tokens[0].Kind != impl.ToName && tokens[0].Kind != impl.ToOpen {
		return writtenRule{}, nil, false
	}
	rule := writtenRule{name: found[1]}
	took := 2
	if found[2] != "" {
		rule.params = strings.Split(found[2], " , ")
		took = 2*len(rule.params) + 2
	}
	for i := 1; i < took-2; i += 2 {
		if tokens[i].Kind != impl.ToName {
			return writtenRule{}, nil, false
		}
	}
	return rule, tokens[took:], true
}

// slowReadSurface cuts the tokens into ever smaller pieces, from the whole down.
func slowReadSurface(text string) (impl.Surface, bool) {
	tokens, fault := slowTokens(text)
	rules := []writtenRule{}
	for fault == 0 && len(tokens) > 0 {
		end := slices.IndexFunc(tokens, func(token impl.Token) bool { return isSign(token, ";") })
		if end < 0 {
			return impl.Surface{}, false
		}
		rule, rest, ok := slowReadHead(tokens[:end])
		if !ok {
			return impl.Surface{}, false
		}
		told := slowReadRows(rest)
		if !told.ok || told.depth > 20 {
			return impl.Surface{}, false
		}
		rule.body = told.thing
		rules, tokens = append(rules, rule), tokens[end+1:]
	}
	s := surfaceOf(rules...)
	if fault != 0 || !slowSurfaceOk(s) {
		return impl.Surface{}, false
	}
	return s, true
}

func exprPicture(e impl.Expr) string {
	told := []string{}
	for _, n := range e.Nodes {
		told = append(told, fmt.Sprintf("%d %d %q %v", n.Op, n.Num, n.Name, n.Kids))
	}
	return strings.Join(told, "; ")
}

// surfacePicture tells each field; a list of nothing and no list are told alike.
func surfacePicture(s impl.Surface) string {
	picture := ""
	for at, node := range s.Nodes {
		picture += fmt.Sprintf("%d: %d %q %q %v", at, node.Kind, node.Text, node.Bind, node.Kids)
		for _, arg := range node.Args {
			picture += " (" + exprPicture(arg) + ")"
		}
		picture += "\n"
	}
	for _, rule := range s.Rules {
		picture += fmt.Sprintf("%q %q %d\n", rule.Name, rule.Params, rule.Body)
	}
	return picture
}

// checkSame holds for any two, right or not.
func checkSame(t *testing.T, what string, a, b impl.Surface) {
	t.Helper()
	want := surfacePicture(a) == surfacePicture(b)
	if impl.SameSurface(a, b) != want || impl.SameSurface(b, a) != want {
		t.Fatalf("%s: SameSurface is not %v of\n%s\n%s", what, want, surfacePicture(a), surfacePicture(b))
	}
}

// checkSurface holds for any, right or not; it tells which it is.
func checkSurface(t *testing.T, what string, s impl.Surface) bool {
	t.Helper()
	right := slowSurfaceOk(s)
	if got := impl.SurfaceOk(s); got != right {
		t.Fatalf("%s: SurfaceOk = %v of\n%s", what, got, surfacePicture(s))
	}
	want := ""
	if right {
		want = slowShowSurface(s)
	}
	if text, ok := impl.ShowSurface(s); ok != right || text != want {
		t.Fatalf("%s: ShowSurface = %q, %v, not %q, of\n%s", what, text, ok, want, surfacePicture(s))
	}
	if g, ok := impl.Flatten(s); ok != right || ok != impl.GrammarOk(g) || !ok && g.Rules != nil {
		t.Fatalf("%s: Flatten = %v, %v of\n%s", what, g, ok, surfacePicture(s))
	}
	return right
}

func takeSurface(t *testing.T, what string, s impl.Surface) {
	t.Helper()
	if !checkSurface(t, what, s) {
		t.Fatalf("%s: not right:\n%s", what, surfacePicture(s))
	}
}

func refuseSurface(t *testing.T, what string, s impl.Surface) {
	t.Helper()
	if checkSurface(t, what, s) {
		t.Fatalf("%s: right:\n%s", what, surfacePicture(s))
	}
	if ends := impl.SurfaceEnds(s, "a", 0); len(ends) > 0 {
		t.Fatalf("%s: SurfaceEnds = %v of\n%s", what, ends, surfacePicture(s))
	}
	checkNames(t, what, s)
}

// checkReading holds for any text, whatever is in it.
func checkReading(t *testing.T, text string) (impl.Surface, bool) {
	t.Helper()
	got, ok := impl.ReadSurface(text)
	want, right := slowReadSurface(text)
	if ok != right || surfacePicture(got) != surfacePicture(want) {
		t.Fatalf("ReadSurface(%q) = %v\n%snot %v\n%s", text, ok, surfacePicture(got), right, surfacePicture(want))
	}
	if !ok && (got.Nodes != nil || got.Rules != nil) {
		t.Fatalf("ReadSurface(%q) is false, and not the zero value", text)
	}
	return got, ok
}

func readsAs(t *testing.T, text string, want impl.Surface) {
	t.Helper()
	got, ok := checkReading(t, text)
	if !ok || surfacePicture(got) != surfacePicture(want) || !impl.SameSurface(got, want) {
		t.Fatalf("ReadSurface(%q) = %v\n%snot\n%s", text, ok, surfacePicture(got), surfacePicture(want))
	}
}

func readsNot(t *testing.T, text string) {
	t.Helper()
	if _, ok := checkReading(t, text); ok {
		t.Fatalf("ReadSurface(%q) is true", text)
	}
}

// reads is for texts of which it matters only that they are taken.
func reads(t *testing.T, text string) {
	t.Helper()
	if _, ok := checkReading(t, text); !ok {
		t.Fatalf("ReadSurface(%q) is false", text)
	}
}

func takesIf(t *testing.T, text string, right bool) {
	t.Helper()
	if right {
		reads(t, text)
	} else {
		readsNot(t, text)
	}
}

func showsAs(t *testing.T, s impl.Surface, want string) {
	t.Helper()
	takeSurface(t, want, s)
	if text, ok := impl.ShowSurface(s); !ok || text != want {
		t.Fatalf("ShowSurface = %q, %v, not %q", text, ok, want)
	}
}

// comesBack: the promise. What is shown is read back as the same, and shown of that again.
func comesBack(t *testing.T, what string, s impl.Surface) {
	t.Helper()
	takeSurface(t, what, s)
	text, _ := impl.ShowSurface(s)
	back, ok := checkReading(t, text)
	if !ok || !impl.SameSurface(s, back) || !impl.SameSurface(back, s) || surfacePicture(back) != surfacePicture(s) {
		t.Fatalf("%s: %q comes back as %v\n%snot\n%s", what, text, ok, surfacePicture(back), surfacePicture(s))
	}
	if again, ok := impl.ShowSurface(back); !ok || again != text {
		t.Fatalf("%s: shown as %q, and then as %q", what, text, again)
	}
}

func rightSurfaces() map[string]impl.Surface {
	sum := twoNames(impl.ExAdd)
	return map[string]impl.Surface{
		"a row of nothing":          surfaceOf(aRule("S", "", aRow())),
		"rows of nothing":           surfaceOf(aRule("S", "", repeated(8, aRow())...)),
		"nothing first":             surfaceOf(aRule("S", "", aRow(), aRow(aText("a")), aRow(aText("b")))),
		"nothing in the middle":     surfaceOf(aRule("S", "", aRow(aText("a")), aRow(), aRow(aText("b")))),
		"nothing last":              surfaceOf(aRule("S", "", aRow(aText("a")), aRow(aText("b")), aRow())),
		"nothing on both sides":     surfaceOf(aRule("S", "", aRow(), aRow(aText("a")), aRow())),
		"nothing in a group":        surfaceOf(aRule("S", "", aRow(aGroup(aRow())))),
		"nothing in each group":     surfaceOf(aRule("S", "", aRow(aGroup(aRow()), aStar(aRow()), aPlus(aRow()), anOpt(aRow())))),
		"nothing beside, in groups": surfaceOf(aRule("S", "", aRow(aStar(aRow(), aRow(aText("a"))), aPlus(aRow(aText("a")), aRow()), anOpt(aRow(), aRow())), aRow())),
		"nothing in each rule":      surfaceOf(aRule("S", "", aRow()), aRule("T", "a", aRow(), aRow()), aRule("U", "", aRow())),
		"a text":                    surfaceOf(aRule("S", "", aRow(aText("a")))),
		"a long text":               surfaceOf(aRule("S", "", aRow(aText("+-*^()[]"), aText(":,;.=<>z"), aText("09azbc12")))),
		"a set":                     surfaceOf(aRule("S", "", aRow(aSet("a-z0-9")))),
		"a call":                    surfaceOf(aRule("S", "", aRow(aCall("S")))),
		"an if":                     surfaceOf(aRule("S", "", aRow(anIf(number(1))))),
		"a call with Args":          oneBody(aRow(aCall("N", number(99)))),
		"bound":                     oneBody(aRow(aBind("b", "D"))),
		"bound with Args":           oneBody(aRow(aBind("zzzz", "N", number(0)))),
		"bound and asked":           oneBody(aRow(aBind("a", "D"), aBind("b", "N", asked("a")), anIf(sum), aCall("N", sum))),
		"each kind in one row":      oneBody(aRow(aText("a"), aSet("0-9"), aCall("D"), anIf(number(1)), aGroup(aRow(aText("g"))), aStar(aRow(aText("s"))), aPlus(aRow(aText("p"))), anOpt(aRow(aText("o"))))),
		"Params":                    paramBody("a b", aRow(anIf(sum)), aRow(aCall("R", asked("b"), asked("a")))),
		"six Params":                paramBody("a b c d e f", aRow(aCall("R", numbers(6)...)), aRow(anIf(asked("f")))),
		"known in groups":           paramBody("a", aRow(aBind("b", "D"), aGroup(aRow(anIf(sum), aStar(aRow(aBind("c", "D"), anIf(asked("c")), anOpt(aRow(anIf(asked("c"))))))), aRow(anIf(asked("b")))), anIf(sum))),
		"bound again behind a row":  oneBody(aRow(aGroup(aRow(aBind("b", "D"))), aBind("b", "D"), anIf(asked("b"))), aRow(aBind("b", "D"))),
		"bound in each row":         oneBody(aRow(aStar(aRow(aBind("b", "D")), aRow(aBind("b", "D"), anIf(asked("b"))), aRow(aBind("a", "D"), aBind("b", "D"))))),
		"names out of order":        oneBody(aRow(aBind("c", "D"), aBind("a", "D"), aStar(aRow(aBind("b", "D"), aGroup(aRow(anIf(sum))))))),
		"a circle":                  surfaceOf(aRule("S", "", aRow(aGroup(aRow(aCall("T")))), aRow(aCall("S"))), aRule("T", "", aRow(aPlus(aRow(aCall("S")))))),
		"great letters":             surfaceOf(aRule("Abc9Z", "", aRow(aCall("zZ0"))), aRule("zZ0", "", aRow(aCall("x")), aRow(aCall("xa1"))), aRule("x", "", aRow()), aRule("xa1", "", aRow()), aRule("X1", "", aRow())),
		"eight rules":               surfaceOf(eightRules()...),
	}
}

func eightRules() []writtenRule {
	rules := []writtenRule{}
	for i := range 8 {
		rules = append(rules, aRule(fmt.Sprintf("R%d", i), "", aRow(aCall(fmt.Sprintf("R%d", (i+1)%8))), aRow()))
	}
	return rules
}

func TestRightSurfacesComeBack(t *testing.T) {
	for what, s := range rightSurfaces() {
		comesBack(t, what, s)
	}
}

// The nodes, and the texts, are worked out by hand.
func TestSurfaceNodesByHand(t *testing.T) {
	leaf := func(kind int, text string) impl.SNode { return impl.SNode{Kind: kind, Text: text} }
	over := func(kind int, kids ...int) impl.SNode { return impl.SNode{Kind: kind, Kids: kids} }
	s := impl.Surface{
		Nodes: []impl.SNode{
			{Kind: impl.SnCall, Text: "N", Bind: "n"},
			leaf(impl.SnText, "a"),
			{Kind: impl.SnIf, Args: []impl.Expr{exprOf(named("n"), num(5), pair(impl.ExLess, 0, 1))}},
			over(impl.SnRow, 1, 2), over(impl.SnRow), over(impl.SnAlt, 3, 4), over(impl.SnStar, 5),
			over(impl.SnRow, 0, 6), over(impl.SnAlt, 7),
			leaf(impl.SnSet, "0-9"), over(impl.SnRow, 9), over(impl.SnAlt, 10),
		},
		Rules: []impl.SRule{{Name: "S", Body: 8}, {Name: "N", Body: 11}},
	}
	readsAs(t, "S -> n:N ( \"a\" { n < 5 } | )* ; N -> [0-9] ;", s)
	showsAs(t, s, "S -> n:N ( \"a\" { (n < 5) } |  )* ;\nN -> [0-9] ;\n")
	s = impl.Surface{
		Nodes: []impl.SNode{
			over(impl.SnRow), over(impl.SnRow), over(impl.SnAlt, 0, 1),
			leaf(impl.SnText, "b"), over(impl.SnRow, 3), over(impl.SnAlt, 4), over(impl.SnOpt, 5),
			over(impl.SnRow, 6), over(impl.SnAlt, 7), over(impl.SnPlus, 8),
			over(impl.SnRow, 2, 9), over(impl.SnRow), over(impl.SnAlt, 10, 11),
			over(impl.SnRow),
			{Kind: impl.SnCall, Text: "T", Args: []impl.Expr{exprOf(hereNode()), exprOf(named("b"), not(0))}, Bind: "c"},
			over(impl.SnRow, 14), over(impl.SnAlt, 13, 15),
		},
		Rules: []impl.SRule{{Name: "S", Body: 12}, {Name: "T", Params: []string{"a", "b"}, Body: 16}},
	}
	readsAs(t, "S->(|)((\"b\")?)+|;T(a,b)->|c:T(@,!b);", s)
	showsAs(t, s, "S -> (  |  ) ( ( \"b\" )? )+ |  ;\nT(a,b) ->  | c:T(@,!b) ;\n")
}

func TestShownSurfaces(t *testing.T) {
	showsAs(t, surfaceOf(aRule("S", "", aRow())), "S ->  ;\n")
	showsAs(t, surfaceOf(aRule("S", "", aRow(), aRow(), aRow())), "S ->  |  |  ;\n")
	showsAs(t, surfaceOf(aRule("S", "", aRow(aGroup(aRow())))), "S -> (  ) ;\n")
	showsAs(t, surfaceOf(aRule("S", "", aRow(aStar(aRow())), aRow(aPlus(aRow(), aRow(aText("a")))))), "S -> (  )* | (  | \"a\" )+ ;\n")
	showsAs(t, oneBody(aRow(aText("+-*^()[]"), aSet("a-z09"), aCall("D"), aCall("N", number(7)))), "S -> \"+-*^()[]\" [a-z09] D N(7) ;\nD -> [0-9] ;\nN(n) -> { n } ;\n")
	showsAs(t, oneBody(aRow(aBind("a", "D"), aBind("b", "N", asked("a")), anOpt(aRow(aText("x")), aRow(aText("y"))))), "S -> a:D b:N(a) ( \"x\" | \"y\" )? ;\nD -> [0-9] ;\nN(n) -> { n } ;\n")
	showsAs(t, paramBody("a bb ccc dddd", aRow(aCall("R", number(0), exprOf(hereNode()), twoNamed("a", "bb"), asked("dddd")))),
		"S ->  ;\nR(a,bb,ccc,dddd) -> R(0,@,(a + bb),dddd) ;\nD -> [0-9] ;\nN(n) -> { n } ;\n")
}

func twoNamed(a, b string) impl.Expr { return exprOf(named(a), named(b), pair(impl.ExAdd, 0, 1)) }

// Groups in groups: each with each sign and with none.
func TestGroupsInGroups(t *testing.T) {
	for _, outer := range groupKinds() {
		for _, middle := range groupKinds() {
			for _, inner := range groupKinds() {
				row := aRow(signed(inner, aRow(aText("a")), aRow()))
				row = aRow(aText("b"), signed(middle, row, aRow()), aText("c"))
				comesBack(t, "one in the other", surfaceOf(aRule("S", "", aRow(signed(outer, row)))))
				row = aRow(signed(outer, aRow()), signed(middle, aRow(aText("a"))), signed(inner, aRow(), aRow()))
				comesBack(t, "one behind the other", surfaceOf(aRule("S", "", row, row)))
				comesBack(t, "in one group", surfaceOf(aRule("S", "", aRow(signed(outer, row)))))
			}
		}
	}
}

// Each kind of thing, with each kind behind it, and with each kind of gap between their tokens.
func TestThingsBesideEachOther(t *testing.T) {
	things := []thing{
		aText("a"), aSet("a-c"), aCall("D"), aCall("N", number(1)), aBind("b", "D"), aBind("c", "N", number(2)),
		anIf(number(3)), aGroup(aRow()), aStar(aRow(aText("a"))), aPlus(aRow(), aRow()), anOpt(aRow(aCall("D"))),
	}
	for _, first := range things {
		comesBack(t, "alone", oneBody(aRow(first)))
		for _, second := range things {
			if first.node.Bind != "" && first.node.Bind == second.node.Bind {
				continue
			}
			s := oneBody(aRow(first, second), aRow(second))
			comesBack(t, "two", s)
			tokens, _ := impl.Tokens(slowShowSurface(s))
			for _, gap := range gaps() {
				readsAs(t, gap+laidOut(tokens, func(a, b impl.Token) string { return gap })+gap, s)
			}
			readsAs(t, laidOut(tokens, func(a, b impl.Token) string {
				if mayTouch(a, b) {
					return ""
				}
				return " "
			}), s)
		}
	}
}

func exprReads(t *testing.T, text string, nodes ...impl.ExNode) {
	t.Helper()
	s := helped(aRule("S", "", aRow()), aRule("R", "a b c d", aRow(anIf(exprOf(nodes...)))))
	readsAs(t, "S -> ; R(a,b,c,d) -> {"+text+"} ; D -> [0-9] ; N(n) -> {n} ;", s)
	s = helped(aRule("S", "", aRow()), aRule("R", "a b c d", aRow(aCall("N", exprOf(nodes...)))))
	readsAs(t, "S -> ; R(a,b,c,d) -> N("+text+") ; D -> [0-9] ; N(n) -> {n} ;", s)
}

func exprReadsNot(t *testing.T, text string) {
	t.Helper()
	readsNot(t, "S -> ; R(a,b,c,d) -> {"+text+"} ; D -> [0-9] ; N(n) -> {n} ;")
	readsNot(t, "S -> ; R(a,b,c,d) -> N("+text+") ; D -> [0-9] ; N(n) -> {n} ;")
}

// The nodes are worked out by hand.
func TestExpressionsByHand(t *testing.T) {
	a, b, c, d := named("a"), named("b"), named("c"), named("d")
	add, sub, mul, div, less, same, and := impl.ExAdd, impl.ExSub, impl.ExMul, impl.ExDiv, impl.ExLess, impl.ExSame, impl.ExAnd
	exprReads(t, "a", a)
	exprReads(t, "@", hereNode())
	exprReads(t, "0", num(0))
	exprReads(t, "99", num(99))
	exprReads(t, "00", num(0))
	exprReads(t, "07", num(7))
	exprReads(t, "(a)", a)
	exprReads(t, "(((7)))", num(7))
	exprReads(t, "!a", a, not(0))
	exprReads(t, "!!@", hereNode(), not(0), not(1))
	exprReads(t, "!(a)", a, not(0))
	exprReads(t, "!(a+b)", a, b, pair(add, 0, 1), not(2))
	exprReads(t, "!a+b", a, not(0), b, pair(add, 1, 2))
	exprReads(t, "a+!b", a, b, not(1), pair(add, 0, 2))
	exprReads(t, "!a*!b", a, not(0), b, not(2), pair(mul, 1, 3))
	exprReads(t, "a-1", a, num(1), pair(sub, 0, 1))
	for i, op := range pairOps() {
		exprReads(t, "a"+"+-*/<=&"[i:i+1]+"b", a, b, pair(op, 0, 1))
	}
	exprReads(t, "a+b+c", a, b, pair(add, 0, 1), c, pair(add, 2, 3))
	exprReads(t, "a-b-c-d", a, b, pair(sub, 0, 1), c, pair(sub, 2, 3), d, pair(sub, 4, 5))
	exprReads(t, "a-(b-c)", a, b, c, pair(sub, 1, 2), pair(sub, 0, 3))
	exprReads(t, "a/b/c", a, b, pair(div, 0, 1), c, pair(div, 2, 3))
	exprReads(t, "a*b/c*d", a, b, pair(mul, 0, 1), c, pair(div, 2, 3), d, pair(mul, 4, 5))
	exprReads(t, "a+b-c+d", a, b, pair(add, 0, 1), c, pair(sub, 2, 3), d, pair(add, 4, 5))
	exprReads(t, "a&b&c", a, b, pair(and, 0, 1), c, pair(and, 2, 3))
	exprReads(t, "a&(b&c)", a, b, c, pair(and, 1, 2), pair(and, 0, 3))
	exprReads(t, "a+b*c", a, b, c, pair(mul, 1, 2), pair(add, 0, 3))
	exprReads(t, "a*b+c", a, b, pair(mul, 0, 1), c, pair(add, 2, 3))
	exprReads(t, "(a+b)*c", a, b, pair(add, 0, 1), c, pair(mul, 2, 3))
	exprReads(t, "a+b<c*d", a, b, pair(add, 0, 1), c, d, pair(mul, 3, 4), pair(less, 2, 5))
	exprReads(t, "a=b&c<d", a, b, pair(same, 0, 1), c, d, pair(less, 3, 4), pair(and, 2, 5))
	exprReads(t, "a&b<c&d", a, b, c, pair(less, 1, 2), pair(and, 0, 3), d, pair(and, 4, 5))
	exprReads(t, "(a<b)<c", a, b, pair(less, 0, 1), c, pair(less, 2, 3))
	exprReads(t, "a=(b=c)", a, b, c, pair(same, 1, 2), pair(same, 0, 3))
	exprReads(t, "!a<!b", a, not(0), b, not(2), pair(less, 1, 3))
	exprReads(t, "a*b+c/d-@<1&!a", a, b, pair(mul, 0, 1), c, d, pair(div, 3, 4), pair(add, 2, 5), hereNode(), pair(sub, 6, 7), num(1), pair(less, 8, 9), a, not(11), pair(and, 10, 12))
}

func TestWrongExpressions(t *testing.T) {
	for _, text := range strings.Split("|()|(|)|(a|a)|((a)|(a))|a b|a 1|1 a|1 1|@ @|a @|(a)(b)|(a)b|a(b)|a (b)|a()|a(|!|!!|a!|a!b|+|+a|-a|-1|a+|a-|a*|/a|a/|<a|a<|=a|a=|&a|a&|a++b|a--b|a+*b|a**b|a<<b|a==b|a&&b|a<b<c|a=b=c|a<b=c|a=b<c|a<=b|a->b|->|a,|,a|a;|a?b|a?|a:b|a*+b|\"a\"|[a]|a+\"b\"|a+[b]|{a}|a{|a}b|e|A|a+e|abcde|a1|1a|100", "|") {
		exprReadsNot(t, text)
	}
	// These cut the alternatives, and leave nothing of an expression on either side.
	exprReadsNot(t, "|")
	exprReadsNot(t, "a|b")
	exprReadsNot(t, "(a|b)")
	reads(t, "S -> ; N(a,b) -> N(a,b) ;")
	readsNot(t, "S -> ; N(a,b) -> { a , b } ;")
}

// All rows of up to five tokens, as an expression.
func TestExpressionsOfFewTokens(t *testing.T) {
	taken := 0
	textsOf("a1+*<&!()", 5, func(row string) {
		// The tokens stand apart, so that no name is followed by a parenthesis of its own.
		text := "S -> { " + strings.Join(strings.Split(row, ""), " ") + " } ;"
		_, ok := checkReading(t, strings.ReplaceAll(text, "a", "@"))
		taken += oneOf(ok)
	})
	if taken < 200 {
		t.Errorf("only %d are taken", taken)
	}
}

// All rows of up to five tokens, as alternatives, and as a whole.
func TestRowsOfFewTokens(t *testing.T) {
	words := map[byte]string{'S': "S", 'a': `"a"`, 'o': "(", 'c': ")", '|': "|", '*': "*", '?': "?", ':': "b :", ';': ";", '>': "->", 'O': "S("}
	spelt := func(row string) string {
		text := ""
		for i := range len(row) {
			text += words[row[i]] + " "
		}
		return text
	}
	taken := [2]int{}
	textsOf("Saoc|*:", 5, func(row string) {
		_, ok := checkReading(t, "S -> "+spelt(row)+";")
		taken[0] += oneOf(ok)
	})
	textsOf("Sa|;>O", 6, func(row string) {
		_, ok := checkReading(t, spelt(row))
		taken[1] += oneOf(ok)
	})
	if taken[0] < 500 || taken[1] < 20 {
		t.Errorf("only %d are taken", taken)
	}
}

func TestWrongTexts(t *testing.T) {
	for _, text := range []string{
		"", " ", "\n", "# S -> ;", ";", "->", "S", "S ;", "S ->", "-> ;", "S S -> ;", "S -> S", "S - > ;", "S => ;", "S = ;", "S : ;", "\"S\" -> ;", "[S] -> ;", "1 -> ;",
		"S -> ; ;", "; S -> ;", "S -> ; S", "S -> ; T ->", "S -> T -> ;", "S -> -> ;", "S -> ; -> ;", "S -> | ", "S | -> ;", "| S -> ;", "S -> ; |",
		"S( -> ;", "S() -> ;", "S -> ; T() -> ;", "S -> ; T(a -> ;", "S -> ; T(a,) -> ;", "S -> ; T(,a) -> ;", "S -> ; T(a,,b) -> ;", "S -> ; T(a b) -> ;", "S -> ; T(a;b) -> ;", "S -> ; T (a) -> ;",
		"S -> ; T a) -> ;", "S -> ; T) -> ;", "S -> ; T(1) -> ;", "S -> ; T(\"a\") -> ;", "S -> ; T([a]) -> ;", "S -> ; T(@) -> ;", "S -> ; T(a(b)) -> ;", "S -> ; T((a)) -> ;", "S -> ; T(!a) -> ;", "S -> ; T(a:b) -> ;",
		"S -> ( ;", "S -> ) ;", "S -> ( ) ) ;", "S -> ( ( ) ;", "S -> (;) ;", "S -> ( | ;", "S -> ( ; )", "S -> ) ( ;",
		"S -> { } ;", "S -> { ;", "S -> } ;", "S -> { 1 ;", "S -> 1 } ;", "S -> { 1 } } ;", "S -> { { 1 } } ;", "S -> { 1 ) ;", "S -> { ( 1 } ) ;", "S -> ( { 1 ) } ;", "S -> { 1 | 2 } ;", "S -> { \"a\" } ;", "S -> { [a] } ;", "S -> { S } ;",
		"S -> 1 ;", "S -> @ ;", "S -> ! ;", "S -> , ;", "S -> = ;", "S -> < ;", "S -> & ;", "S -> - ;", "S -> / ;", "S -> 1 + 1 ;", "S -> !S ;",
		"S -> * ;", "S -> + ;", "S -> ? ;", "S -> S* ;", "S -> S+ ;", "S -> S? ;", "S -> \"a\"* ;", "S -> \"a\"+ ;", "S -> [a]* ;", "S -> [a]? ;", "S -> { 1 }* ;", "S -> { 1 }+ ;", "S -> b:S* ;", "S -> ( )** ;", "S -> ( )*+ ;", "S -> ( )?* ;", "S -> ( )+? ;",
		"S -> (* ) ;", "S -> ( *) ;", "S -> | * ;", "S -> *( ) ;", "S -> ( ) * * ;", "S -> ( ) | * ;", "S -> ; *",
		"S -> : ;", "S -> b: ;", "S -> b:b:S ;", "S -> :S ;", "S -> b::S ;", "S -> b:\"a\" ;", "S -> b:[a] ;", "S -> b:{ 1 } ;", "S -> b:( ) ;", "S -> b:( S ) ;", "S -> b:1 ;", "S -> b:; ;", "S -> b:| ;", "S -> 1:S ;", "S -> \"b\":S ;", "S -> ( ):S ;", "S -> S : ;", "S -> n(1):S ;", "S -> n(1):S ; n(n) -> ;", "S -> b:n(1):S ; n(n) -> ;",
		"S -> N(1):S ; N(n) -> ;", "S -> N() ; N(n) -> ;", "S -> S() ;", "S -> N(1 ; N(n) -> ;", "S -> N(1,) ; N(n) -> ;", "S -> N(,1) ; N(n) -> ;", "S -> N(1;2) ; N(n) -> ;", "S -> N(1 2) ; N(n) -> ;", "S -> N (1) ; N(n) -> ;", "S -> N(1|2) ; N(n) -> ;", "S -> N(\"a\") ; N(n) -> ;", "S -> N({1}) ; N(n) -> ;",
		"S -> \"A\" ;", "S -> \"a b\" ;", "S -> \"_\" ;", "S -> \"123456789\" ;", "S -> \"\" ;", "S -> [A] ;", "S -> [] ;", "S -> [z-a] ;", "S -> 'a' ;", "S -> ~ ;", "S -> \"a ;", "S -> [a ;",
		"S -> T ;", "S -> s ;", "S -> ; S -> ;", "S -> ; T -> ; S -> ;", "S -> N ; N(n) -> ;", "S -> N(1,2) ; N(n) -> ;", "S -> S(1) ;", "S(n) -> ;", "S(n) -> ; T -> ;",
		"S -> ; N(n,n) -> ;", "S -> ; N(n,a) -> ;", "S -> ; N(N) -> ;", "S -> ; N(n1) -> ;", "S -> ; N(abcde) -> ;", "S -> ; N(a,b,c,d,e,f,g) -> ;",
		"x0 -> ;", "S -> ; x1 -> ;", "S -> ; x9a -> ;", "S -> x0 ; x0 -> ;", "S -> ( ) x0 ;", "Abcdefg -> ;",
	} {
		readsNot(t, text)
	}
}

// What is nearly the same as the wrong ones is taken.
func TestTextsNearWrongOnes(t *testing.T) {
	for _, text := range []string{
		"S->;", "S -> # ;\n;", "S -> ; T -> ;", "S -> ; T(a) -> ;", "S -> ; T( a , b ) -> ;", "S -> ( ) ;", "S -> ( ( ) ) ;", "S -> ( | ) | ;", "S -> | | ;", "S -> S ( ) ;", "S -> S S ;",
		"S -> { 1 } ;", "S -> { ( 1 ) } ;", "S -> { 1 } { 2 } ;", "S -> ( )* ;", "S -> ( ) * ;", "S -> ( )\n+ ;", "S -> ( ) # remark\n? ;", "S -> ( S )+ ( \"a\" )? ;", "S -> b:S ;", "S -> b : S ;", "S -> b:S ( ) ;", "S -> b:S | b:S ;",
		"S -> N(1) ; N(n) -> ;", "S -> N( 1 ) ; N(n) -> ;", "S -> b:N(1) ; N(n) -> ;", "S -> b:S N(b) ; N(n) -> ;", "S -> N(1) ( ) ; N(n) -> ;", "S -> M(1,(2)) ; M(a,b) -> ;",
		"S -> ; x -> ;", "S -> ; xa -> ;", "S -> ; X0 -> ;", "S -> ; ax0 -> ;", "S -> ; xX0 -> ;", "xa -> xa ;", "s -> s ;", "Abcdef -> ;", "S -> \"a\" \"12345678\" ;", "S -> ; T -> S ;", "S -> T ; T -> ;",
	} {
		reads(t, text)
	}
}

// A right text breaks off at each of its bytes: what is left is never a grammar, for the first rule calls the last.
func TestTextsThatBreakOff(t *testing.T) {
	t.Parallel()
	whole := "S -> n:N(1,!@) ( \"a\" { n < (5 + 1) } | [a-c] )* ( )? |  ;\nN(a,b) -> a1:S | ( { a } )+ ;\n"
	readsNot(t, whole)
	whole = strings.ReplaceAll(whole, "a1:", "c:")
	reads(t, whole)
	for at := range len(whole) - 1 {
		readsNot(t, whole[:at])
		checkReading(t, whole[at:])
		checkReading(t, whole[:at]+whole[at+1:])
	}
	for _, b := range allBytes() {
		for at := range len(whole) {
			checkReading(t, withByte(whole, at, byte(b)))
		}
	}
	tokens, _ := impl.Tokens(whole)
	pool := []impl.Token{{Kind: impl.ToName, Text: "S"}, {Kind: impl.ToName, Text: "n"}, {Kind: impl.ToNum, Text: "3"}, {Kind: impl.ToText, Text: "a"}, {Kind: impl.ToSet, Text: "a"}, {Kind: impl.ToOpen, Text: "N"}, {Kind: impl.ToSign, Text: "->"}}
	for i := range len(tokenSigns) {
		pool = append(pool, impl.Token{Kind: impl.ToSign, Text: tokenSigns[i : i+1]})
	}
	taken := 0
	for at := range tokens {
		for _, token := range pool {
			turned := slices.Clone(tokens)
			turned[at] = token
			_, ok := checkReading(t, laidOut(turned, blankBetween))
			_, more := checkReading(t, laidOut(slices.Insert(slices.Clone(tokens), at, token), blankBetween))
			taken += oneOf(ok) + oneOf(more)
		}
	}
	if taken < 100 {
		t.Errorf("only %d are taken", taken)
	}
}

// A full row has nine nodes: 73 of the first rule, 47 of the second one, and some texts more.
func TestMostNodes(t *testing.T) {
	full := aRow(repeated(8, aText("a"))...)
	for texts := range 6 {
		rows := append(repeated(5, full), aRow(repeated(texts, aText("a"))...))
		s := surfaceOf(aRule("S", "", repeated(8, full)...), aRule("T", "", rows...))
		if len(s.Nodes) != 120+texts {
			t.Fatalf("%d nodes, not %d", len(s.Nodes), 120+texts)
		}
		if checkSurface(t, "many nodes", s) != (texts == 0) {
			t.Fatalf("%d nodes: right is %v", len(s.Nodes), texts > 0)
		}
		text := slowShowSurface(s)
		if _, fault := impl.Tokens(text); fault != 0 {
			t.Fatalf("%d nodes are too much of a text", len(s.Nodes))
		}
		takesIf(t, text, texts == 0)
		if texts == 0 {
			comesBack(t, "120 nodes", s)
		}
	}
	comesBack(t, "119 nodes", surfaceOf(aRule("S", "", repeated(8, full)...), aRule("T", "", repeated(5, full)...)))
}

func TestMostKidsAndRows(t *testing.T) {
	for count := range 12 {
		right := count <= 8
		s := surfaceOf(aRule("S", "", aRow(repeated(count, aText("a"))...)))
		if checkSurface(t, "things in a row", s) != right {
			t.Fatalf("%d things in a row: right is %v", count, !right)
		}
		takesIf(t, "S -> "+strings.Repeat("\"a\" ", count)+";", right)
		takesIf(t, "S -> "+strings.Repeat("( ) ", count)+";", right)
		takesIf(t, "S -> ( "+strings.Repeat("\"a\" ", count)+") ;", right)
		takesIf(t, "S -> ( "+strings.Repeat("\"a\" ", count)+")? ;", right)
		s = surfaceOf(aRule("S", "", repeated(count, aRow())...))
		if checkSurface(t, "rows", s) != (right && count > 0) {
			t.Fatalf("%d rows: right is %v", count, !right)
		}
		s = surfaceOf(aRule("S", "", aRow(aGroup(repeated(count, aRow())...))))
		if checkSurface(t, "rows of a group", s) != (right && count > 0) {
			t.Fatalf("%d rows of a group: right is %v", count, !right)
		}
		takesIf(t, "S -> "+strings.Repeat("|", count)+";", count <= 7)
		takesIf(t, "S -> ( "+strings.Repeat("|", count)+" ) ;", count <= 7)
	}
}

func TestMostRules(t *testing.T) {
	for count := range 12 {
		rules, text := []writtenRule{}, ""
		for i := range count {
			rules = append(rules, aRule(fmt.Sprintf("R%d", i), "", aRow(aText("a"))))
			text += fmt.Sprintf("R%d -> \"a\" ;", i)
		}
		right := count >= 1 && count <= 8
		if checkSurface(t, "rules", surfaceOf(rules...)) != right {
			t.Fatalf("%d rules: right is %v", count, !right)
		}
		takesIf(t, text, right)
	}
}

// Flatten has a limit of its own on what is in a group, and on how many groups there are.
func TestWhatFlattenRefuses(t *testing.T) {
	most := map[int]int{impl.SnAlt: 8, impl.SnStar: 7, impl.SnPlus: 4, impl.SnOpt: 7}
	for kind, rows := range most {
		for count := 1; count <= 9; count++ {
			s := surfaceOf(aRule("S", "", aRow(signed(kind, repeated(count, aRow(aText("a")))...))))
			if checkSurface(t, "rows of a group", s) != (count <= rows) {
				t.Fatalf("kind %d with %d rows: right is %v", kind, count, count > rows)
			}
			takesIf(t, slowShowSurface(s), count <= rows)
		}
	}
	most = map[int]int{impl.SnAlt: 8, impl.SnStar: 7, impl.SnPlus: 7, impl.SnOpt: 8}
	for kind, things := range most {
		for count := range 10 {
			for _, rows := range [][]thing{{aRow(repeated(count, aText("a"))...)}, {aRow(), aRow(repeated(count, aText("a"))...), aRow()}} {
				s := surfaceOf(aRule("S", "", aRow(signed(kind, rows...))))
				if checkSurface(t, "things of a group", s) != (count <= things) {
					t.Fatalf("kind %d with %d things: right is %v", kind, count, count > things)
				}
				takesIf(t, slowShowSurface(s), count <= things)
			}
		}
	}
	for rules := 1; rules <= 8; rules++ {
		for groups := 20; groups <= 32; groups++ {
			s := manyGroups(rules, groups)
			right := rules+groups <= 30
			if checkSurface(t, "groups", s) != right {
				t.Fatalf("%d rules and %d groups: right is %v", rules, groups, !right)
			}
			takesIf(t, slowShowSurface(s), right)
		}
	}
}

// manyGroups has so many rules, and so many groups in the first one, four in each row but the last.
func manyGroups(rules, groups int) impl.Surface {
	list := []writtenRule{aRule("S", "")}
	for i := range groups {
		rows := &list[0].body.kids
		if i%4 == 0 {
			*rows = append(*rows, aRow())
		}
		row := &(*rows)[len(*rows)-1]
		row.kids = append(row.kids, signed(groupKinds()[i%4], aRow()))
	}
	for i := 1; i < rules; i++ {
		list = append(list, aRule(fmt.Sprintf("R%d", i), "", aRow()))
	}
	return surfaceOf(list...)
}

func TestNamesThatFlattenRefuses(t *testing.T) {
	for name, right := range map[string]bool{
		"x": true, "xx": true, "xa": true, "xX1": true, "X0": true, "X9": true, "ax0": true, "y0": true, "xx0": true, "S": true,
		"x0": false, "x1": false, "x9": false, "x00": false, "x30": false, "x99": false, "x0a": false, "x9Z": false, "x12345": false,
	} {
		first := surfaceOf(aRule(name, "", aRow(aText("a"))))
		last := surfaceOf(aRule("Q", "", aRow(aCall(name))), aRule(name, "", aRow(aGroup(aRow()))))
		for _, s := range []impl.Surface{first, last} {
			if checkSurface(t, name, s) != right {
				t.Fatalf("a rule %s: right is %v", name, !right)
			}
			takesIf(t, slowShowSurface(s), right)
		}
	}
	// These rules are made, not written: no name of them can be called.
	for _, kind := range groupKinds() {
		refuseSurface(t, "a call of what a group will be", surfaceOf(aRule("S", "", aRow(signed(kind, aRow()), aCall("x0")))))
		refuseSurface(t, "a call of what a group is in", surfaceOf(aRule("S", "", aRow(signed(kind, aRow(aCall("x0")))))))
	}
	readsNot(t, "S -> ( ) x0 ;")
	readsNot(t, "S -> ( x0 ) ;")
	readsNot(t, "S -> ( ( | x0 )* )+ ( ) ;")
}

// A rule's alternatives are one deep, and those of each group in them one deeper.
func TestDeepestGroups(t *testing.T) {
	for depth := 1; depth <= 24; depth++ {
		open, shut := strings.Repeat("(", depth-1), strings.Repeat(")", depth-1)
		takesIf(t, "S -> "+open+" \"a\" "+shut+";", depth <= 20)
		takesIf(t, "S -> \"b\" | \"a\" "+open+shut+" | ;", depth <= 20)
		takesIf(t, "S -> "+open+strings.Repeat(")*", depth-1)+";", depth <= 20)
		// Of what is not written there is no depth: the groups are as many as Flatten takes.
		takeSurface(t, "deep groups", surfaceOf(aRule("S", "", nested(depth, impl.SnAlt, aRow()))))
	}
	takeSurface(t, "29 deep", surfaceOf(aRule("S", "", nested(29, impl.SnPlus, aRow()))))
	refuseSurface(t, "30 deep", surfaceOf(aRule("S", "", nested(30, impl.SnPlus, aRow()))))
	// What is beside it is not deeper for it.
	reads(t, "S -> "+strings.Repeat("(", 15)+strings.Repeat(")", 15)+strings.Repeat("(", 9)+strings.Repeat(")", 9)+"; T -> "+strings.Repeat("(", 4)+strings.Repeat(")", 4)+";")
}

// Alternatives, an expression and a simple one are 3 deep; with parentheses 2 more, with `!` one more.
func TestDeepestExpressions(t *testing.T) {
	for marks := range 22 {
		takesIf(t, "S -> { "+strings.Repeat("!", marks)+"1 } ;", 3+marks <= 20)
		takesIf(t, "S -> N( "+strings.Repeat("!", marks)+"1 ) ; N(n) -> ;", 3+marks <= 20)
		takesIf(t, "S -> ( { "+strings.Repeat("!", marks)+"@ } ) ;", 4+marks <= 20)
		open, shut := strings.Repeat("(", marks), strings.Repeat(")", marks)
		takesIf(t, "S -> { "+open+"1"+shut+" } ;", 3+2*marks <= 20)
		takesIf(t, "S -> b:N("+open+"1"+shut+") ; N(n) -> ;", 3+2*marks <= 20)
		takesIf(t, "S -> ( { "+open+"1"+shut+" } ) ;", 4+2*marks <= 20)
		takesIf(t, "S -> { 1 + 1 * "+open+"1"+shut+" < 1 & 1 } ;", 3+2*marks <= 20)
	}
	for groups := range 20 {
		for parens := range 10 {
			for marks := range 17 {
				text := "S -> " + strings.Repeat("(", groups) + " { " + strings.Repeat("(", parens) + strings.Repeat("!", marks) + "1" +
					strings.Repeat(")", parens) + " } " + strings.Repeat(")", groups) + " ;"
				takesIf(t, text, 3+groups+2*parens+marks <= 20)
				text = strings.ReplaceAll(strings.ReplaceAll(text, "{", "N( "), "}", ")") + " N(n) -> ;"
				takesIf(t, text, 3+groups+2*parens+marks <= 20)
			}
		}
	}
	// The signs between two do not make it deeper: 20 nodes are the limit here.
	reads(t, "S -> { 1"+strings.Repeat("+1", 9)+" } ;")
	readsNot(t, "S -> { 1"+strings.Repeat("+1", 10)+" } ;")
	reads(t, "S -> { !1"+strings.Repeat("&1", 9)+" } ;")
	readsNot(t, "S -> { !!1"+strings.Repeat("&1", 9)+" } ;")
	reads(t, "S -> { ((1)*(1))-((1)/(1)) } ;")
	// What is shown has parentheses around each two: it may be deeper than what was read.
	for terms := 2; terms <= 10; terms++ {
		sum, _ := checkReading(t, "S -> { 1"+strings.Repeat("+1", terms-1)+" } ;")
		text, ok := impl.ShowSurface(sum)
		if !ok || strings.Count(text, "(") != terms-1 {
			t.Fatalf("a sum of %d is shown as %q", terms, text)
		}
		takesIf(t, text, 3+2*(terms-1) <= 20)
	}
}

func TestLongestTexts(t *testing.T) {
	for _, text := range []string{"S -> ;", "S -> \"a\" ( [a] )* ; T -> S ;"} {
		for _, gap := range []string{" ", "\n"} {
			pad := strings.Repeat(gap, 600-len(text))
			reads(t, text+pad)
			reads(t, pad+text)
			readsNot(t, text+pad+gap)
			readsNot(t, gap+pad+text)
		}
		remark := "#" + strings.Repeat("r", 599-len(text))
		reads(t, text+remark)
		readsNot(t, text+remark+"r")
	}
}

// A grammar is right with so many texts more, till its tokens are too many.
func TestMostTokensOfAGrammar(t *testing.T) {
	calls := strings.Repeat("N(1,2,3,4,5,6) ", 8) + "| " + strings.Repeat("N(6,5,4,3,2,1) ", 5)
	for texts := range 20 {
		rows := strings.Repeat("\"a\" ", texts)
		if texts > 8 {
			rows = strings.Repeat("\"a\" ", 8) + "| " + strings.Repeat("\"a\" ", texts-8)
		}
		text := "S -> " + calls + "; N(a,b,c,d,e,f) -> " + rows + " ;"
		// 13 calls of 13 tokens, a bar, and 3 of the first rule's own; 15, and maybe a bar, of the second one's.
		tokens := 13*13 + 1 + 3 + 15 + texts + oneOf(texts > 8)
		if list, fault := slowTokens(text); fault == 0 && len(list) != tokens || (fault == 0) != (tokens <= 200) {
			t.Fatalf("%d texts: %d tokens, not %d", texts, len(list), tokens)
		}
		takesIf(t, text, tokens <= 200)
	}
}

// What a row binds is known behind it in that row, and below, and nowhere else.
func TestWhatIsKnown(t *testing.T) {
	for text, right := range map[string]bool{
		"S -> b:D { b } ;":                                true,
		"S -> { b } b:D ;":                                false,
		"S -> b:N(b) ;":                                   false,
		"S -> b:D c:N(b) { b + c } ;":                     true,
		"S -> b:D | { b } ;":                              false,
		"S -> { b } | b:D ;":                              false,
		"S -> b:D ( { b } ) ;":                            true,
		"S -> b:D ( | ( { b } )* )+ ;":                    true,
		"S -> ( { b } ) b:D ;":                            false,
		"S -> ( b:D ) { b } ;":                            false,
		"S -> ( b:D )* { b } ;":                           false,
		"S -> ( b:D { b } ) ;":                            true,
		"S -> ( b:D | { b } ) ;":                          false,
		"S -> ( b:D ) ( { b } ) ;":                        false,
		"S -> ( b:D ( { b } | ) { b } )? ;":               true,
		"S -> ( b:D ( { b } | ) { b } )? { b } ;":         false,
		"S -> b:D b:D ;":                                  false,
		"S -> b:D ( b:D ) ;":                              false,
		"S -> b:D ( ( | b:D )* )* ;":                      false,
		"S -> ( b:D ) b:D ;":                              true,
		"S -> ( b:D ) ( b:D ) ;":                          true,
		"S -> ( b:D | b:D )+ | b:D ;":                     true,
		"S -> ; R(a) -> { a } ;":                          true,
		"S -> ; R(a) -> ( { a } )* ;":                     true,
		"S -> ; R(a) -> a:D ;":                            false,
		"S -> ; R(a) -> ( a:D ) ;":                        false,
		"S -> ; R(a) -> ; T -> { a } ;":                   false,
		"S -> a:D ; T -> { a } ;":                         false,
		"S -> a:D ; T -> a:D ;":                           true,
		"S -> ; R(a) -> b:D ( { a & b } ) ;":              true,
		"S -> D:D ;":                                      false,
		"S -> abcde:D ;":                                  false,
		"S -> a1:D ;":                                     false,
		"S -> a:D b:D c:D d:D e:D f:D ;":                  true,
		"S -> a:D b:D c:D d:D e:D f:D g:D ;":              false,
		"S -> a:D b:D c:D d:D e:D ( f:D ) g:D ;":          true,
		"S -> a:D b:D c:D d:D e:D ( f:D ( | g:D ) ) ;":    false,
		"S -> a:D b:D c:D ( d:D ( e:D ( f:D ( ) ) ) )* ;": true,
		"S -> ; R(a,b,c,d,e) -> f:D ;":                    true,
		"S -> ; R(a,b,c,d,e) -> f:D ( { f } ) ;":          true,
		"S -> ; R(a,b,c,d,e) -> f:D g:D ;":                false,
		"S -> ; R(a,b,c,d,e,f) -> g:D ;":                  false,
		"S -> ; R(a,b,c,d,e,f) -> ( ( g:D )* | ) ;":       false,
		"S -> ; R(a,b,c,d,e,f) -> ( D )+ ;":               true,
	} {
		takesIf(t, text+" D -> [0-9] ; N(n) -> ;", right)
	}
	comesBack(t, "six known in each group", oneBody(aRow(aBind("f", "D"), aBind("b", "D"), aStar(aRow(aBind("c", "D"), aBind("a", "D"), aPlus(aRow(aBind("e", "D"), aBind("d", "D"), anOpt(aRow(anIf(twoNames(impl.ExMul)))))))))))
}

// turned is the grammar, in memory of its own, with one thing changed.
func turned(s impl.Surface, change func(s *impl.Surface)) impl.Surface {
	out := copied(s)
	change(&out)
	return out
}

func copied(s impl.Surface) impl.Surface {
	out := impl.Surface{Nodes: slices.Clone(s.Nodes), Rules: slices.Clone(s.Rules)}
	for i := range out.Nodes {
		node := &out.Nodes[i]
		node.Kids, node.Args = slices.Clone(node.Kids), slices.Clone(node.Args)
		for j := range node.Args {
			node.Args[j].Nodes = slices.Clone(node.Args[j].Nodes)
			for k := range node.Args[j].Nodes {
				node.Args[j].Nodes[k].Kids = slices.Clone(node.Args[j].Nodes[k].Kids)
			}
		}
	}
	for i := range out.Rules {
		out.Rules[i].Params = slices.Clone(out.Rules[i].Params)
	}
	return out
}

// placeOf is the place of the first node of this Kind.
func placeOf(s impl.Surface, kind int) int {
	return slices.IndexFunc(s.Nodes, func(node impl.SNode) bool { return node.Kind == kind })
}

// allKinds has every Kind of node; its rules have different numbers of Params.
func allKinds() impl.Surface {
	return oneBody(
		aRow(aText("a"), aSet("b-d"), aBind("n", "D"), aCall("N", plus("n", 1)), anIf(same(named("n"), num(1)))),
		aRow(aGroup(aRow(aText("g")), aRow()), aStar(aRow(aText("s"))), aPlus(aRow(aText("p"))), anOpt(aRow(aText("o")))),
	)
}

func TestWrongKindsOfNodes(t *testing.T) {
	whole := allKinds()
	comesBack(t, "all kinds", whole)
	for at := range whole.Nodes {
		for _, kind := range []int{leastInt, -1, 0, 10, 11, 256, 257, 262, greatestInt} {
			refuseSurface(t, fmt.Sprint("the Kind ", kind), turned(whole, func(s *impl.Surface) { s.Nodes[at].Kind = kind }))
		}
		for kind := 1; kind <= 9; kind++ {
			s := turned(whole, func(s *impl.Surface) { s.Nodes[at].Kind = kind })
			// A sign may be another one; all else has no other Kind.
			signs := kind >= impl.SnStar && whole.Nodes[at].Kind >= impl.SnStar
			// What has nothing below it may be told apart by its Text alone.
			texts := kind <= impl.SnSet && whole.Nodes[at].Kind <= impl.SnSet
			if checkSurface(t, "another Kind", s) && kind != whole.Nodes[at].Kind && !signs && !texts {
				t.Fatalf("%d as %d is right", whole.Nodes[at].Kind, kind)
			}
		}
	}
}

func TestKidsThatAreNotAhead(t *testing.T) {
	whole := allKinds()
	for at, node := range whole.Nodes {
		for i := range node.Kids {
			for _, kid := range []int{leastInt, -1, at, at + 1, len(whole.Nodes) - 1, len(whole.Nodes), greatestInt} {
				refuseSurface(t, "a Kid that is not ahead", turned(whole, func(s *impl.Surface) { s.Nodes[at].Kids[i] = kid }))
			}
			for kid := range at {
				s := turned(whole, func(s *impl.Surface) { s.Nodes[at].Kids[i] = kid })
				if checkSurface(t, "another Kid", s) != (kid == node.Kids[i]) {
					t.Fatalf("node %d with the Kid %d for %d: right is %v", at, kid, node.Kids[i], kid != node.Kids[i])
				}
			}
			refuseSurface(t, "a Kid less", turned(whole, func(s *impl.Surface) { s.Nodes[at].Kids = slices.Delete(s.Nodes[at].Kids, i, i+1) }))
		}
		for kid := -1; kid <= len(whole.Nodes); kid++ {
			refuseSurface(t, "a Kid more", turned(whole, func(s *impl.Surface) { s.Nodes[at].Kids = append(s.Nodes[at].Kids, kid) }))
		}
	}
	// Two that are ahead of one another go round for ever.
	circle := impl.Surface{Nodes: []impl.SNode{{Kind: impl.SnRow, Kids: []int{1}}, {Kind: impl.SnAlt, Kids: []int{0}}}, Rules: []impl.SRule{{Name: "S", Body: 1}}}
	refuseSurface(t, "a circle of Kids", circle)
	refuseSurface(t, "a node that is its own Kid", impl.Surface{Nodes: []impl.SNode{{Kind: impl.SnAlt, Kids: []int{0}}}, Rules: []impl.SRule{{Name: "S", Body: 0}}})
}

func TestNodesInWrongPlaces(t *testing.T) {
	body := func(nodes ...impl.SNode) impl.Surface {
		return impl.Surface{Nodes: nodes, Rules: []impl.SRule{{Name: "S", Body: len(nodes) - 1}}}
	}
	text := impl.SNode{Kind: impl.SnText, Text: "a"}
	over := func(kind int, kids ...int) impl.SNode { return impl.SNode{Kind: kind, Kids: kids} }
	row, alt, star := impl.SnRow, impl.SnAlt, impl.SnStar
	takeSurface(t, "a text", body(text, over(row, 0), over(alt, 1)))
	takeSurface(t, "two texts", body(text, text, over(row, 1, 0), over(alt, 2)))
	refuseSurface(t, "the Kid of one, twice", body(text, over(row, 0, 0), over(alt, 1)))
	refuseSurface(t, "the Kid of two rows", body(text, over(row, 0), over(row, 0), over(alt, 1, 2)))
	refuseSurface(t, "a row of two", body(text, over(row, 0), over(alt, 1), over(row, 2), over(alt, 3, 1)))
	refuseSurface(t, "a row twice", body(text, over(row, 0), over(alt, 1, 1)))
	refuseSurface(t, "a group of two", body(over(row), over(alt, 0), over(row, 1), over(row, 1), over(alt, 2, 3)))
	refuseSurface(t, "a group of a row and of a sign", body(over(row), over(alt, 0), over(star, 1), over(row, 1, 2), over(alt, 3)))
	refuseSurface(t, "a group of two signs", body(over(row), over(alt, 0), over(star, 1), over(impl.SnOpt, 1), over(row, 2, 3), over(alt, 4)))
	refuseSurface(t, "a text of none", body(text, text, over(row, 0), over(alt, 2)))
	refuseSurface(t, "a row of none", body(text, over(row, 0), over(row), over(alt, 1)))
	refuseSurface(t, "a group of none", body(over(row), over(alt, 0), over(row), over(alt, 2)))
	refuseSurface(t, "a group of none behind the Body", impl.Surface{Nodes: []impl.SNode{over(row), over(alt, 0), over(row), over(alt, 2)}, Rules: []impl.SRule{{Name: "S", Body: 1}}})
	refuseSurface(t, "a row in a row", body(over(row), over(row, 0), over(alt, 1)))
	refuseSurface(t, "a row in a row, beside a text", body(text, over(row), over(row, 0, 1), over(alt, 2)))
	refuseSurface(t, "a text in alternatives", body(text, over(alt, 0)))
	refuseSurface(t, "a text beside a row", body(text, over(row), over(alt, 0, 1)))
	refuseSurface(t, "alternatives in alternatives", body(over(row), over(alt, 0), over(alt, 1)))
	refuseSurface(t, "a sign in alternatives", body(over(row), over(alt, 0), over(star, 1), over(alt, 2)))
	refuseSurface(t, "alternatives of nothing", body(over(alt)))
	refuseSurface(t, "a group of nothing", body(over(alt), over(row, 0), over(alt, 1)))
	for kind := impl.SnStar; kind <= impl.SnOpt; kind++ {
		takeSurface(t, "a sign", body(over(row), over(alt, 0), over(kind, 1), over(row, 2), over(alt, 3)))
		refuseSurface(t, "a sign of nothing", body(over(kind), over(row, 0), over(alt, 1)))
		refuseSurface(t, "a sign of two", body(over(row), over(alt, 0), over(row), over(alt, 2), over(kind, 1, 3), over(row, 4), over(alt, 5)))
		refuseSurface(t, "a sign of a group of nothing", body(over(alt), over(kind, 0), over(row, 1), over(alt, 2)))
		refuseSurface(t, "a sign of a group and a text", body(over(row), over(alt, 0), text, over(kind, 1, 2), over(row, 3), over(alt, 4)))
		refuseSurface(t, "a sign of a text and a group", body(over(row), over(alt, 0), text, over(kind, 2, 1), over(row, 3), over(alt, 4)))
		refuseSurface(t, "a sign of a row", body(over(row), over(kind, 0), over(row, 1), over(alt, 2)))
		refuseSurface(t, "a sign of a text", body(text, over(kind, 0), over(row, 1), over(alt, 2)))
		for inner := impl.SnStar; inner <= impl.SnOpt; inner++ {
			refuseSurface(t, "a sign of a sign", body(over(row), over(alt, 0), over(inner, 1), over(kind, 2), over(row, 3), over(alt, 4)))
		}
		refuseSurface(t, "a sign as a Body", body(over(row), over(alt, 0), over(kind, 1)))
	}
	refuseSurface(t, "a row as a Body", body(over(row)))
	refuseSurface(t, "a text as a Body", body(text))
}

func TestWrongBodies(t *testing.T) {
	whole := allKinds()
	for i, rule := range whole.Rules {
		for body := -2; body < len(whole.Nodes)+2; body++ {
			s := turned(whole, func(s *impl.Surface) { s.Rules[i].Body = body })
			if checkSurface(t, "another Body", s) != (body == rule.Body) {
				t.Fatalf("rule %d with the Body %d for %d: right is %v", i, body, rule.Body, body != rule.Body)
			}
		}
		for _, body := range []int{leastInt, greatestInt} {
			refuseSurface(t, "a Body far away", turned(whole, func(s *impl.Surface) { s.Rules[i].Body = body }))
		}
		refuseSurface(t, "a Body of two", turned(whole, func(s *impl.Surface) {
			s.Rules = append(s.Rules, impl.SRule{Name: "More", Body: rule.Body})
		}))
		refuseSurface(t, "a rule less", turned(whole, func(s *impl.Surface) { s.Rules = slices.Delete(s.Rules, i, i+1) }))
	}
	// The rows of two rules may be told in any order, and the rules as well.
	s := impl.Surface{
		Nodes: []impl.SNode{{Kind: impl.SnRow}, {Kind: impl.SnRow}, {Kind: impl.SnAlt, Kids: []int{0}}, {Kind: impl.SnAlt, Kids: []int{1}}},
		Rules: []impl.SRule{{Name: "S", Body: 3}, {Name: "T", Body: 2}},
	}
	showsAs(t, s, "S ->  ;\nT ->  ;\n")
	refuseSurface(t, "two rules of one Body", turned(s, func(s *impl.Surface) { s.Rules[1].Body = 3 }))
	refuseSurface(t, "two rules of one Body, and nothing else", impl.Surface{Nodes: []impl.SNode{{Kind: impl.SnRow}, {Kind: impl.SnAlt, Kids: []int{0}}}, Rules: []impl.SRule{{Name: "S", Body: 1}, {Name: "T", Body: 1}}})
	refuseSurface(t, "a Body in a row", impl.Surface{
		Nodes: []impl.SNode{{Kind: impl.SnRow}, {Kind: impl.SnAlt, Kids: []int{0}}, {Kind: impl.SnRow, Kids: []int{1}}, {Kind: impl.SnAlt, Kids: []int{2}}},
		Rules: []impl.SRule{{Name: "S", Body: 1}, {Name: "T", Body: 3}},
	})
	refuseSurface(t, "a Body below a sign", impl.Surface{
		Nodes: []impl.SNode{{Kind: impl.SnRow}, {Kind: impl.SnAlt, Kids: []int{0}}, {Kind: impl.SnOpt, Kids: []int{1}}, {Kind: impl.SnRow, Kids: []int{2}}, {Kind: impl.SnAlt, Kids: []int{3}}},
		Rules: []impl.SRule{{Name: "S", Body: 1}, {Name: "T", Body: 4}},
	})
	refuseSurface(t, "nothing at all", impl.Surface{})
	refuseSurface(t, "no rules", impl.Surface{Nodes: whole.Nodes})
	refuseSurface(t, "no nodes", impl.Surface{Rules: whole.Rules})
	refuseSurface(t, "no nodes, and one rule", impl.Surface{Rules: []impl.SRule{{Name: "S"}}})
}

func TestWrongHeads(t *testing.T) {
	for name, right := range map[string]bool{"": false, "1": false, "1a": false, "a b": false, "S": true, "Abcde6": true, "Abcdef7": false, "é": false, "R": false, "N": false, "D": false, "r": true, "a_": false} {
		s := turned(paramBody("a b", aRow()), func(s *impl.Surface) { s.Rules[0].Name = name })
		if checkSurface(t, "the Name "+name, s) != right {
			t.Fatalf("the Name %q: right is %v", name, !right)
		}
	}
	for params, right := range map[string]bool{"": true, "a": true, "a b": true, "b a": false, "a a": false, "a b b": false, "A": false, "a1": false, "abcd": true, "abcde": false, "a b c d e f": true, "a b c d e f g": false, "a ab b": true, "ab a": false} {
		if checkSurface(t, "the Params "+params, paramBody(params, aRow(aText("a")))) != right {
			t.Fatalf("the Params %q: right is %v", params, !right)
		}
		refuse := params != ""
		if checkSurface(t, "of the first rule", surfaceOf(aRule("S", params, aRow()))) == refuse {
			t.Fatalf("the Params %q of the first rule", params)
		}
	}
	refuseSurface(t, "an empty Param", turned(paramBody("a b", aRow()), func(s *impl.Surface) { s.Rules[1].Params[0] = "" }))
	refuseSurface(t, "the first rule with Params", turned(allKinds(), func(s *impl.Surface) { slices.Reverse(s.Rules) }))
}

func TestWrongThings(t *testing.T) {
	two := []impl.Expr{number(1), number(2)}
	wrong := map[string]thing{
		"a text of nothing":       aText(""),
		"a text of nine":          aText("123456789"),
		"a text with a blank":     aText("a b"),
		"a text with a mark":      aText("\""),
		"a text with a great one": aText("A"),
		"a text with Args":        {node: impl.SNode{Kind: impl.SnText, Text: "a", Args: two[:1]}},
		"a text that binds":       {node: impl.SNode{Kind: impl.SnText, Text: "a", Bind: "b"}},
		"a set of nothing":        aSet(""),
		"a set turned round":      aSet("z-a"),
		"a set with Args":         {node: impl.SNode{Kind: impl.SnSet, Text: "a", Args: two[:1]}},
		"a set that binds":        {node: impl.SNode{Kind: impl.SnSet, Text: "a", Bind: "b"}},
		"a call of nothing":       aCall(""),
		"a call of no rule":       aCall("T"),
		"a call with a missing":   aCall("N"),
		"a call with one more":    aCall("N", two...),
		"a call with some":        aCall("D", two[0]),
		"a call that binds wrong": aBind("B", "D"),
		"a call that binds long":  aBind("abcde", "D"),
		"an if of nothing":        {node: impl.SNode{Kind: impl.SnIf}},
		"an if of two":            {node: impl.SNode{Kind: impl.SnIf, Args: two}},
		"an if that binds":        {node: impl.SNode{Kind: impl.SnIf, Args: two[:1], Bind: "b"}},
		"an if with a Text":       {node: impl.SNode{Kind: impl.SnIf, Args: two[:1], Text: "D"}},
		"an if of a wrong one":    anIf(exprOf(num(100))),
		"an if of no nodes":       anIf(impl.Expr{}),
		"an if of 21 nodes":       anIf(chain(21)),
		"an if of what is not":    anIf(asked("b")),
		"an if of what is aside":  anIf(exprOf(named("b"), num(1))),
		"a call of what is not":   aCall("N", asked("b")),
		"a call of a wrong one":   aCall("N", exprOf(not(0))),
		"a row with a Text":       aGroup(thing{node: impl.SNode{Kind: impl.SnRow, Text: "a"}}),
		"a row that binds":        aGroup(thing{node: impl.SNode{Kind: impl.SnRow, Bind: "b"}}),
		"a row with Args":         aGroup(thing{node: impl.SNode{Kind: impl.SnRow, Args: two[:1]}}),
		"a group with a Text":     {impl.SNode{Kind: impl.SnAlt, Text: "a"}, []thing{aRow()}},
		"a group that binds":      {impl.SNode{Kind: impl.SnAlt, Bind: "b"}, []thing{aRow()}},
		"a group with Args":       {impl.SNode{Kind: impl.SnAlt, Args: two}, []thing{aRow()}},
		"a sign with a Text":      {impl.SNode{Kind: impl.SnStar, Text: "*"}, []thing{aGroup(aRow())}},
		"a sign that binds":       {impl.SNode{Kind: impl.SnPlus, Bind: "b"}, []thing{aGroup(aRow())}},
		"a sign with Args":        {impl.SNode{Kind: impl.SnOpt, Args: two[:1]}, []thing{aGroup(aRow())}},
		"a text with a Kid":       {impl.SNode{Kind: impl.SnText, Text: "a"}, []thing{aText("b")}},
		"a set with a Kid":        {impl.SNode{Kind: impl.SnSet, Text: "a"}, []thing{aGroup(aRow())}},
		"a call with a Kid":       {impl.SNode{Kind: impl.SnCall, Text: "D"}, []thing{aRow()}},
		"an if with a Kid":        {impl.SNode{Kind: impl.SnIf, Args: two[:1]}, []thing{aText("b")}},
	}
	for what, one := range wrong {
		refuseSurface(t, what, oneBody(aRow(one)))
		refuseSurface(t, what+", behind", oneBody(aRow(aText("a")), aRow(aText("a"), one)))
		refuseSurface(t, what+", below", oneBody(aRow(aStar(aRow(aText("a")), aRow(aGroup(aRow(one)))))))
		refuseSurface(t, what+", in another rule", paramBody("a", aRow(one)))
	}
}

// Nodes in another order than that of reading are as right; they are shown as the same, and read in that order.
func TestNodesInAnyOrder(t *testing.T) {
	surfaces := rightSurfaces()
	surfaces["all kinds"] = allKinds()
	unlike := 0
	for what, s := range surfaces {
		for seed := range 20 {
			mixed := mixedUp(seeded(seed), s)
			takeSurface(t, what+", mixed up", mixed)
			text, _ := impl.ShowSurface(mixed)
			if want := slowShowSurface(s); text != want {
				t.Fatalf("%s: mixed up it is shown as %q, not as %q", what, text, want)
			}
			readsAs(t, text, s)
			checkSame(t, what, s, mixed)
			unlike += oneOf(surfacePicture(s) != surfacePicture(mixed))
		}
	}
	if unlike < 100 {
		t.Errorf("only %d are in another order", unlike)
	}
}

// mixedUp has the same nodes in another order, in which Kids are ahead, too.
func mixedUp(next func(n int) int, s impl.Surface) impl.Surface {
	out, places := copied(s), map[int]int{}
	nodes := []impl.SNode{}
	for len(nodes) < len(s.Nodes) {
		ready := []int{}
		for at, node := range s.Nodes {
			_, placed := places[at]
			waits := slices.ContainsFunc(node.Kids, func(kid int) bool { _, there := places[kid]; return !there })
			if !placed && !waits {
				ready = append(ready, at)
			}
		}
		at := ready[next(len(ready))]
		places[at] = len(nodes)
		node := out.Nodes[at]
		for i, kid := range node.Kids {
			node.Kids[i] = places[kid]
		}
		nodes = append(nodes, node)
	}
	out.Nodes = nodes
	for i := range out.Rules {
		out.Rules[i].Body = places[out.Rules[i].Body]
	}
	return out
}

// Of what is too much to be shown, nothing is told; the rest is.
func TestTooMuchOfAnExpression(t *testing.T) {
	great, much := more(just200(), not(9)), just200()
	told := impl.ShowExpr(much)
	if told == "" || impl.ShowExpr(great) != "" || !impl.ExprOk(great) {
		t.Fatal("not the expressions that are looked for")
	}
	tail := " ;\nD -> [0-9] ;\nN(n) -> { n } ;\n"
	showsAs(t, oneBody(aRow(anIf(great))), "S -> {  }"+tail)
	showsAs(t, oneBody(aRow(anIf(much))), "S -> { "+told+" }"+tail)
	showsAs(t, oneBody(aRow(aText("a"), anIf(great), aText("b"))), "S -> \"a\" {  } \"b\""+tail)
	showsAs(t, oneBody(aRow(aCall("N", great))), "S -> N()"+tail)
	showsAs(t, oneBody(aRow(aBind("b", "N", great), aCall("N", asked("b")))), "S -> b:N() N(b)"+tail)
	showsAs(t, oneBody(aRow(aStar(aRow(aCall("N", great)), aRow(anIf(great))))), "S -> ( N() | {  } )*"+tail)
	showsAs(t, paramBody("a b c", aRow(aCall("R", great, number(1), great))), "S ->  ;\nR(a,b,c) -> R(,1,)"+tail)
	showsAs(t, paramBody("a b", aRow(aCall("R", great, great))), "S ->  ;\nR(a,b) -> R(,)"+tail)
	for _, s := range []impl.Surface{oneBody(aRow(anIf(great))), oneBody(aRow(aCall("N", great))), paramBody("a b", aRow(aCall("R", great, great)))} {
		text, _ := impl.ShowSurface(s)
		readsNot(t, text)
	}
	// Nodes that are come to more than once are written, and read, each as often.
	twice := exprOf(num(1), pair(impl.ExAdd, 0, 0))
	text, _ := impl.ShowSurface(oneBody(aRow(anIf(twice))))
	readsAs(t, text, oneBody(aRow(anIf(exprOf(num(1), num(1), pair(impl.ExAdd, 0, 1))))))
	aside := exprOf(num(3), num(1))
	text, _ = impl.ShowSurface(oneBody(aRow(anIf(aside))))
	readsAs(t, text, oneBody(aRow(anIf(number(1)))))
	text, _ = impl.ShowSurface(oneBody(aRow(anIf(doubled(impl.ExAdd, 5)))))
	readsNot(t, text)
}

// deepTreeExpr has pairs, one in the other, for as long as there is room.
func deepTreeExpr(next func(n int) int, e *impl.Expr, room int) int {
	if room < 3 {
		e.Nodes = append(e.Nodes, num(next(100)))
		return len(e.Nodes) - 1
	}
	left := []int{1, room - 2}[next(2)]
	first := deepTreeExpr(next, e, left)
	second := deepTreeExpr(next, e, room-1-left)
	e.Nodes = append(e.Nodes, pair(impl.ExAdd+next(7), first, second))
	return len(e.Nodes) - 1
}

// someTreeExpr is written as it is read: each node is come to once, behind those below it.
func someTreeExpr(next func(n int) int, e *impl.Expr, room int, known []string) int {
	switch kind := next(4); {
	case kind == 0 && room > 1:
		of := someTreeExpr(next, e, room-1, known)
		e.Nodes = append(e.Nodes, not(of))
	case kind > 1 && room > 2:
		left := 1 + next(room-2)
		first := someTreeExpr(next, e, left, known)
		second := someTreeExpr(next, e, room-1-left, known)
		e.Nodes = append(e.Nodes, pair(impl.ExAdd+next(7), first, second))
	case len(known) > 0 && next(2) == 0:
		e.Nodes = append(e.Nodes, named(known[next(len(known))]))
	case next(3) == 0:
		e.Nodes = append(e.Nodes, hereNode())
	default:
		e.Nodes = append(e.Nodes, num(next(100)))
	}
	return len(e.Nodes) - 1
}

// Each expression that is written as it is read comes back, as far as it is not nested too deep.
func TestExpressionsComeBack(t *testing.T) {
	t.Parallel()
	known, back, deep := strings.Fields("a b c"), 0, 0
	for seed := range 4000 {
		next := seeded(seed)
		e := impl.Expr{}
		if seed%4 == 0 {
			deepTreeExpr(next, &e, 1+next(20))
		} else {
			someTreeExpr(next, &e, 1+next(20), known)
		}
		s := helped(aRule("S", "", aRow()), aRule("R", "a b c", aRow(anIf(e), aCall("N", e))))
		text, ok := impl.ShowSurface(s)
		if !ok {
			t.Fatalf("seed %d: %v is not right", seed, e)
		}
		if _, right := slowReadSurface(text); !right {
			readsNot(t, text)
			deep++
			continue
		}
		comesBack(t, fmt.Sprint("seed ", seed), s)
		back++
	}
	if back < 3000 || deep < 10 {
		t.Errorf("%d come back, %d are too deep", back, deep)
	}
}

// Without the parentheses that are not needed, an expression is read as the same.
func TestExpressionsWithFewParentheses(t *testing.T) {
	known := strings.Fields("a b c d")
	for seed := range 4000 {
		next := seeded(7000 + seed)
		e := impl.Expr{}
		someTreeExpr(next, &e, 1+next(20), known)
		text := bareExpr(e, len(e.Nodes)-1, 0)
		want := helped(aRule("S", "", aRow()), aRule("R", "a b c d", aRow(anIf(e))))
		whole := "S -> ; R(a,b,c,d) -> {" + text + "} ; D -> [0-9] ; N(n) -> {n} ;"
		if _, right := slowReadSurface(whole); !right {
			readsNot(t, whole)
			continue
		}
		readsAs(t, whole, want)
	}
}

// bareExpr has parentheses only where what binds less stands below what binds more.
func bareExpr(e impl.Expr, at, around int) string {
	n := e.Nodes[at]
	switch n.Op {
	case impl.ExNum, impl.ExVar, impl.ExHere:
		return slowShow(exprOf(n))
	case impl.ExNot:
		return "!" + bareExpr(e, n.Kids[0], 9)
	}
	level := map[int]int{impl.ExAnd: 1, impl.ExLess: 2, impl.ExSame: 2, impl.ExAdd: 3, impl.ExSub: 3, impl.ExMul: 4, impl.ExDiv: 4}[n.Op]
	left := level
	if level == 2 {
		left = 3
	}
	text := bareExpr(e, n.Kids[0], left) + "+-*/<=&"[n.Op-4:n.Op-3] + bareExpr(e, n.Kids[1], level+1)
	if level < around {
		return "(" + text + ")"
	}
	return text
}

// surfaceMaker makes rows by chance; it takes care that most are right.
type surfaceMaker struct {
	next  func(n int) int
	heads []writtenRule
	room  int
}

func (m *surfaceMaker) rows(known []string, depth int) []thing {
	rows := []thing{}
	for range 1 + m.next(3) {
		rows = append(rows, m.row(known, depth))
	}
	return rows
}

func (m *surfaceMaker) row(known []string, depth int) thing {
	row := aRow()
	for range m.next(4) {
		if m.room--; m.room < 0 {
			break
		}
		one := m.thing(known, depth)
		row.kids = append(row.kids, one)
		if one.node.Bind != "" {
			known = append(slices.Clone(known), one.node.Bind)
		}
	}
	return row
}

func (m *surfaceMaker) expr(known []string) impl.Expr {
	if m.next(200) == 0 {
		return asked("zz")
	}
	e := impl.Expr{}
	someTreeExpr(m.next, &e, 1+m.next(6), known)
	return e
}

func (m *surfaceMaker) thing(known []string, depth int) thing {
	switch kind := m.next(8); {
	case kind == 0:
		at := m.next(len(symTextBytes))
		return aText(strings.Repeat(symTextBytes[at:at+1], 1+m.next(8)))
	case kind == 1:
		return aSet(rightSets()[m.next(len(rightSets()))])
	case kind == 2:
		return anIf(m.expr(known))
	case kind < 5 && depth < 4:
		return signed(groupKinds()[m.next(4)], m.rows(known, depth+1)...)
	}
	head := m.heads[m.next(len(m.heads))]
	args := []impl.Expr{}
	for range head.params {
		args = append(args, m.expr(known))
	}
	bind := []string{"", "", "", "a", "b", "c", "d", "k", "v", "w", "x"}[m.next(11)]
	if slices.Contains(known, bind) && m.next(10) > 0 {
		bind = ""
	}
	return aBind(bind, head.name, args...)
}

func someSurface(next func(n int) int) impl.Surface {
	m := surfaceMaker{next: next, room: 4 + next(20)}
	for i := range 1 + next(5) {
		rule := writtenRule{name: fmt.Sprintf("%s%d", []string{"R", "r", "Xx", "S"}[next(4)], i)}
		for _, param := range []string{"a", "c", "m", "x"} {
			if i > 0 && next(4) == 0 {
				rule.params = append(rule.params, param)
			}
		}
		m.heads = append(m.heads, rule)
	}
	for i := range m.heads {
		m.heads[i].body = aGroup(m.rows(m.heads[i].params, 0)...)
	}
	return surfaceOf(m.heads...)
}

// spoilSurface changes one thing, which may make it wrong.
func spoilSurface(next func(n int) int, s *impl.Surface) {
	node, rule := &s.Nodes[next(len(s.Nodes))], &s.Rules[next(len(s.Rules))]
	names := []string{"", "a", "b", "x", "x0", "R0", "R1", "1", "zzzzz"}
	name := names[next(len(names))]
	switch next(13) {
	case 0:
		node.Kind = next(11)
	case 1:
		node.Text = name
	case 2:
		node.Bind = name
	case 3:
		node.Args = append(node.Args, number(1))
	case 4:
		node.Args = nil
	case 5:
		slices.Reverse(node.Kids)
	case 6:
		node.Kids = append(node.Kids, next(len(s.Nodes)))
	case 7:
		if len(node.Kids) > 0 {
			node.Kids = node.Kids[1:]
		}
	case 8:
		rule.Name = name
	case 9:
		rule.Params = append(rule.Params, name)
	case 10:
		slices.Reverse(s.Rules)
	case 11:
		rule.Body = next(len(s.Nodes))
	case 12:
		other := next(len(s.Nodes))
		at := next(len(s.Nodes))
		s.Nodes[at], s.Nodes[other] = s.Nodes[other], s.Nodes[at]
	}
}

func TestSurfacesOfManySeeds(t *testing.T) {
	t.Parallel()
	const seeds = 4000
	right, back := [2]int{}, 0
	for seed := range seeds {
		next := seeded(seed)
		s := someSurface(next)
		what := fmt.Sprint("seed ", seed)
		if checkSurface(t, what, s) {
			right[0]++
			text, _ := impl.ShowSurface(s)
			// More than 600 bytes, or 200 tokens, can be shown, but not be read.
			if _, ok := checkReading(t, text); ok {
				comesBack(t, what, s)
				back++
			}
		}
		s = copied(s)
		spoilSurface(next, &s)
		right[1] += oneOf(checkSurface(t, what+", spoilt", s))
	}
	if right[0] < seeds/2 || back < right[0]*3/4 || right[1] < seeds/20 || right[1] > seeds/2 {
		t.Errorf("of %d: %d are right, %d come back, %d are right when spoilt", seeds, right[0], back, right[1])
	}
}

// Shown texts with tokens left out, doubled, turned or exchanged are read as the slow reading reads them.
func TestTextsOfManySeeds(t *testing.T) {
	t.Parallel()
	taken, tried := 0, 0
	for seed := range 3000 {
		next := seeded(-1 - seed)
		s := someSurface(next)
		text, ok := impl.ShowSurface(s)
		tokens, fault := impl.Tokens(text)
		if !ok || fault != 0 {
			continue
		}
		for range 4 {
			at, other := next(len(tokens)), next(len(tokens))
			changed := slices.Clone(tokens)
			switch next(4) {
			case 0:
				changed = slices.Delete(changed, at, at+1)
			case 1:
				changed = slices.Insert(changed, at, tokens[other])
			case 2:
				changed[at] = tokens[other]
			case 3:
				changed[at], changed[other] = changed[other], changed[at]
			}
			_, right := checkReading(t, laidOut(changed, blankBetween))
			taken += oneOf(right)
			tried++
		}
	}
	if tried < 5000 || taken < tried/20 || taken > tried*3/4 {
		t.Errorf("%d of %d are taken", taken, tried)
	}
}

func TestReadingOfAnyTokens(t *testing.T) {
	for seed := range 3000 {
		checkReading(t, laidOut(someTokens(seeded(seed), 12), blankBetween))
		checkReading(t, "S -> "+laidOut(someTokens(seeded(seed), 4), blankBetween)+" ;")
	}
	for length := range 600 {
		checkReading(t, mixedText(length))
	}
}

// differing has grammars that differ from this one in one field, one list's length, or the order of one list.
func differing(s impl.Surface) []impl.Surface {
	out := []impl.Surface{}
	add := func(change func(s *impl.Surface)) { out = append(out, turned(s, change)) }
	add(func(s *impl.Surface) { s.Nodes = append(s.Nodes, impl.SNode{}) })
	add(func(s *impl.Surface) { s.Rules = append(s.Rules, impl.SRule{}) })
	for i, node := range s.Nodes {
		add(func(s *impl.Surface) { s.Nodes = slices.Delete(s.Nodes, i, i+1) })
		add(func(s *impl.Surface) { s.Nodes[i].Kind++ })
		add(func(s *impl.Surface) { s.Nodes[i].Text += "a" })
		add(func(s *impl.Surface) { s.Nodes[i].Bind += "a" })
		add(func(s *impl.Surface) { s.Nodes[i].Kids = append(s.Nodes[i].Kids, 0) })
		add(func(s *impl.Surface) { s.Nodes[i].Args = append(s.Nodes[i].Args, impl.Expr{}) })
		if i > 0 {
			add(func(s *impl.Surface) { s.Nodes[i], s.Nodes[i-1] = s.Nodes[i-1], s.Nodes[i] })
		}
		for j := range node.Kids {
			add(func(s *impl.Surface) { s.Nodes[i].Kids[j]++ })
			add(func(s *impl.Surface) { s.Nodes[i].Kids = slices.Delete(s.Nodes[i].Kids, j, j+1) })
			add(func(s *impl.Surface) { slices.Reverse(s.Nodes[i].Kids[j:]) })
		}
		for j, arg := range node.Args {
			add(func(s *impl.Surface) { s.Nodes[i].Args = slices.Delete(s.Nodes[i].Args, j, j+1) })
			add(func(s *impl.Surface) { slices.Reverse(s.Nodes[i].Args[j:]) })
			expr := func(s *impl.Surface) *impl.Expr { return &s.Nodes[i].Args[j] }
			add(func(s *impl.Surface) { expr(s).Nodes = append(expr(s).Nodes, impl.ExNode{}) })
			for k, n := range arg.Nodes {
				add(func(s *impl.Surface) { expr(s).Nodes = slices.Delete(expr(s).Nodes, k, k+1) })
				add(func(s *impl.Surface) { expr(s).Nodes[k].Op++ })
				add(func(s *impl.Surface) { expr(s).Nodes[k].Num-- })
				add(func(s *impl.Surface) { expr(s).Nodes[k].Name += "a" })
				add(func(s *impl.Surface) { expr(s).Nodes[k].Kids = append(expr(s).Nodes[k].Kids, 0) })
				for l := range n.Kids {
					add(func(s *impl.Surface) { expr(s).Nodes[k].Kids[l]++ })
					add(func(s *impl.Surface) { slices.Reverse(expr(s).Nodes[k].Kids[l:]) })
				}
			}
		}
	}
	for i, rule := range s.Rules {
		add(func(s *impl.Surface) { s.Rules = slices.Delete(s.Rules, i, i+1) })
		add(func(s *impl.Surface) { slices.Reverse(s.Rules[i:]) })
		add(func(s *impl.Surface) { s.Rules[i].Name += "a" })
		add(func(s *impl.Surface) { s.Rules[i].Body-- })
		add(func(s *impl.Surface) { s.Rules[i].Params = append(s.Rules[i].Params, "a") })
		for j := range rule.Params {
			add(func(s *impl.Surface) { s.Rules[i].Params[j] += "a" })
			add(func(s *impl.Surface) { s.Rules[i].Params = slices.Delete(s.Rules[i].Params, j, j+1) })
			add(func(s *impl.Surface) { slices.Reverse(s.Rules[i].Params[j:]) })
		}
	}
	return out
}

func TestSameSurfaces(t *testing.T) {
	surfaces := rightSurfaces()
	surfaces["all kinds"] = allKinds()
	surfaces["nothing"] = impl.Surface{}
	surfaces["what is wrong"] = impl.Surface{Nodes: []impl.SNode{{Kind: -3, Text: "x y", Args: []impl.Expr{{}, exprOf(num(-1), num(5))}, Bind: "?", Kids: []int{9, -9}}}, Rules: []impl.SRule{{Name: "no name", Params: []string{"b", "a", ""}, Body: 77}}}
	unlike := 0
	for what, s := range surfaces {
		if !impl.SameSurface(s, s) || !impl.SameSurface(s, copied(s)) || !impl.SameSurface(copied(s), s) {
			t.Fatalf("%s: not the same as itself", what)
		}
		for _, other := range differing(s) {
			checkSame(t, what, s, other)
			unlike += oneOf(!impl.SameSurface(s, other))
		}
	}
	if unlike < 1000 {
		t.Errorf("only %d are unlike", unlike)
	}
	names := slices.Sorted(maps.Keys(surfaces))
	for _, a := range names {
		for _, b := range names {
			checkSame(t, a+" and "+b, surfaces[a], surfaces[b])
		}
	}
}

// A list of nothing and no list are the same.
func TestSameWithListsOfNothing(t *testing.T) {
	none := impl.Surface{Nodes: []impl.SNode{{Kind: 5}, {Kind: 4, Args: []impl.Expr{{Nodes: []impl.ExNode{{Op: 3}}}, {}}}}, Rules: []impl.SRule{{Name: "S"}}}
	empty := impl.Surface{
		Nodes: []impl.SNode{{Kind: 5, Args: []impl.Expr{}, Kids: []int{}}, {Kind: 4, Args: []impl.Expr{{Nodes: []impl.ExNode{{Op: 3, Kids: []int{}}}}, {Nodes: []impl.ExNode{}}}, Kids: []int{}}},
		Rules: []impl.SRule{{Name: "S", Params: []string{}}},
	}
	if !impl.SameSurface(none, empty) || !impl.SameSurface(empty, none) {
		t.Error("lists of nothing, and none: not the same")
	}
	if !impl.SameSurface(impl.Surface{}, impl.Surface{Nodes: []impl.SNode{}, Rules: []impl.SRule{}}) {
		t.Error("nothing at all: not the same")
	}
	for what, s := range rightSurfaces() {
		filled := copied(s)
		for i := range filled.Nodes {
			filled.Nodes[i].Kids = append([]int{}, filled.Nodes[i].Kids...)
			filled.Nodes[i].Args = append([]impl.Expr{}, filled.Nodes[i].Args...)
		}
		for i := range filled.Rules {
			filled.Rules[i].Params = append([]string{}, filled.Rules[i].Params...)
		}
		checkSame(t, what, s, filled)
		takeSurface(t, what, filled)
	}
}

// flatText tells a plain grammar, a rule a line.
func flatText(g impl.Grammar) string {
	told := ""
	for _, rule := range g.Rules {
		told += rule.Name + "(" + strings.Join(rule.Params, ",") + ")"
		for _, alt := range rule.Alts {
			told += " |"
			for _, sym := range alt.Syms {
				args := []string{}
				for _, arg := range sym.Args {
					args = append(args, slowShow(arg))
				}
				told += fmt.Sprintf(" %d%s:%s(%s)", sym.Kind, sym.Bind, sym.Text, strings.Join(args, ","))
			}
		}
		told += "\n"
	}
	return told
}

func flattensAs(t *testing.T, text string, want ...string) {
	t.Helper()
	s, ok := checkReading(t, text)
	g, right := impl.Flatten(s)
	if got := flatText(g); !ok || !right || got != strings.Join(want, "\n")+"\n" {
		t.Fatalf("Flatten of %q = %v\n%s", text, right, got)
	}
	if !impl.GrammarOk(g) {
		t.Fatalf("Flatten of %q is not right", text)
	}
}

// What SurfaceOk asks of Flatten, worked out by hand.
func TestFlattenedByHand(t *testing.T) {
	flattensAs(t, `S -> "a" | ;`, "S() | 1:a() |")
	flattensAs(t, `S -> ( "a" | "b" ) ;`, "S() | 3:x0()", "x0() | 1:a() | 1:b()")
	flattensAs(t, `S -> ( "a" | "b" )? ;`, "S() | 3:x0()", "x0() | 1:a() | 1:b() |")
	flattensAs(t, `S -> ( "a" | "b" )* ;`, "S() | 3:x0()", "x0() | | 1:a() 3:x0() | 1:b() 3:x0()")
	flattensAs(t, `S -> ( "a" | "b" )+ ;`, "S() | 3:x0()", "x0() | 1:a() | 1:b() | 1:a() 3:x0() | 1:b() 3:x0()")
	flattensAs(t, `S -> ( ( "a" )+ ( )? )+ ( T )* | ( ) ; T -> ( S ) ;`,
		"S() | 3:x0() 3:x1() | 3:x2()", "T() | 3:x3()",
		"x0() | 3:x4() 3:x5() | 3:x4() 3:x5() 3:x0()", "x1() | | 3:T() 3:x1()", "x2() |", "x3() | 3:S()",
		"x4() | 1:a() | 1:a() 3:x4()", "x5() | |")
	flattensAs(t, `S -> b:D a:D ( c:D ( { a + c } )? | { b } )* { a } ( ) ; R(n) -> ( { n } m:D )+ { n } ; D -> [0-9] ;`,
		"S() | 3b:D() 3a:D() 3:x0(a,b) 4:(a) 3:x1(a,b)", "R(n) | 3:x2(n) 4:(n)", "D() | 2:0-9()",
		"x0(a,b) | | 3c:D() 3:x3(a,b,c) 3:x0(a,b) | 4:(b) 3:x0(a,b)", "x1(a,b) |",
		"x2(n) | 4:(n) 3m:D() | 4:(n) 3m:D() 3:x2(n)", "x3(a,b,c) | 4:((a + c)) |")
}

// roomySurface has all its lists and texts in memory of its own, with room behind the lists that is filled.
func roomySurface(s impl.Surface) impl.Surface {
	nodes := roomyList(s.Nodes, impl.SNode{Kind: impl.SnText, Text: "s"})
	for i := range nodes {
		node := &nodes[i]
		node.Text, node.Bind = strings.Clone(node.Text), strings.Clone(node.Bind)
		node.Kids = roomyList(node.Kids, 77)
		node.Args = roomyList(node.Args, number(7))
		for j := range node.Args {
			node.Args[j], _ = roomyExpr(node.Args[j])
		}
	}
	rules := roomyList(s.Rules, impl.SRule{Name: "Spare", Params: []string{"s"}, Body: 1})
	for i := range rules {
		rules[i].Name = strings.Clone(rules[i].Name)
		rules[i].Params = roomyList(rules[i].Params, "sp")
		for j := range rules[i].Params {
			rules[i].Params[j] = strings.Clone(rules[i].Params[j])
		}
	}
	return impl.Surface{Nodes: nodes, Rules: rules}
}

// roomPicture tells all that stands in the grammar, and in the room behind its lists.
func roomPicture(s impl.Surface) string {
	picture := fmt.Sprint(len(s.Nodes), len(s.Rules))
	for _, node := range s.Nodes[:cap(s.Nodes)] {
		picture += fmt.Sprintf("\n%d %q %q %d %v %d", node.Kind, node.Text, node.Bind, len(node.Kids), node.Kids[:cap(node.Kids)], len(node.Args))
		for _, arg := range node.Args[:cap(node.Args)] {
			picture += " " + pictureOf(arg.Nodes[:cap(arg.Nodes)])
		}
	}
	for _, rule := range s.Rules[:cap(s.Rules)] {
		picture += fmt.Sprintf("\n%q %d %q %d", rule.Name, len(rule.Params), rule.Params[:cap(rule.Params)], rule.Body)
	}
	return picture
}

// stretch is where a list, with the room behind it, or a text lies.
type stretch struct{ from, to uintptr }

func listStretch[T any](list []T) stretch {
	var one T
	from := uintptr(unsafe.Pointer(unsafe.SliceData(list)))
	return stretch{from, from + uintptr(cap(list))*unsafe.Sizeof(one)}
}

func textStretch(text string) stretch {
	from := uintptr(unsafe.Pointer(unsafe.StringData(text)))
	return stretch{from, from + uintptr(len(text))}
}

func overlap(a, b stretch) bool {
	return a.from < a.to && b.from < b.to && a.from < b.to && b.from < a.to
}

func exprStretches(e impl.Expr) (lists, texts []stretch) {
	lists = append(lists, listStretch(e.Nodes))
	for _, n := range e.Nodes {
		lists, texts = append(lists, listStretch(n.Kids)), append(texts, textStretch(n.Name))
	}
	return lists, texts
}

// surfaceStretches has where each list of the grammar lies, and where each text.
func surfaceStretches(s impl.Surface) (lists, texts []stretch) {
	lists = append(lists, listStretch(s.Nodes), listStretch(s.Rules))
	for _, node := range s.Nodes {
		lists = append(lists, listStretch(node.Kids), listStretch(node.Args))
		texts = append(texts, textStretch(node.Text), textStretch(node.Bind))
		for _, arg := range node.Args {
			moreLists, moreTexts := exprStretches(arg)
			lists, texts = append(lists, moreLists...), append(texts, moreTexts...)
		}
	}
	for _, rule := range s.Rules {
		lists, texts = append(lists, listStretch(rule.Params)), append(texts, textStretch(rule.Name))
		for _, param := range rule.Params {
			texts = append(texts, textStretch(param))
		}
	}
	return lists, texts
}

func grammarStretches(g impl.Grammar) (lists, texts []stretch) {
	lists = append(lists, listStretch(g.Rules))
	for _, rule := range g.Rules {
		lists, texts = append(lists, listStretch(rule.Params), listStretch(rule.Alts)), append(texts, textStretch(rule.Name))
		for _, param := range rule.Params {
			texts = append(texts, textStretch(param))
		}
		for _, alt := range rule.Alts {
			lists = append(lists, listStretch(alt.Syms))
			for _, sym := range alt.Syms {
				lists, texts = append(lists, listStretch(sym.Args)), append(texts, textStretch(sym.Text), textStretch(sym.Bind))
				for _, arg := range sym.Args {
					moreLists, moreTexts := exprStretches(arg)
					lists, texts = append(lists, moreLists...), append(texts, moreTexts...)
				}
			}
		}
	}
	return lists, texts
}

func checkApart(t *testing.T, what string, answers, arguments []stretch) {
	t.Helper()
	for _, answer := range answers {
		for _, argument := range arguments {
			if overlap(answer, argument) {
				t.Fatalf("%s: an answer shares memory with an argument", what)
			}
		}
	}
}

func checkEachApart(t *testing.T, what string, lists []stretch) {
	t.Helper()
	for i, list := range lists {
		for _, other := range lists[:i] {
			if overlap(list, other) {
				t.Fatalf("%s: two lists of one answer share memory", what)
			}
		}
	}
}

func TestSurfacesShareNoMemory(t *testing.T) {
	surfaces := rightSurfaces()
	surfaces["all kinds"] = allKinds()
	surfaces["nothing"] = impl.Surface{}
	surfaces["a name alone"] = paramBody("a", aRow(anIf(asked("a"))))
	surfaces["what is wrong"] = oneBody(aRow(aBind("b", "D"), aBind("b", "D")))
	surfaces["a group bound twice"] = paramBody("a", aRow(aBind("b", "D"), aGroup(aRow(aBind("a", "D")))))
	for seed := range 300 {
		surfaces[fmt.Sprint("seed ", seed)] = someSurface(seeded(seed))
	}
	for what, plain := range surfaces {
		s, other := roomySurface(plain), roomySurface(plain)
		before := roomPicture(s)
		right := impl.SurfaceOk(s)
		text, _ := impl.ShowSurface(s)
		g, _ := impl.Flatten(s)
		if !impl.SameSurface(s, other) || !impl.SameSurface(s, s) {
			t.Fatalf("%s: not the same as with other room behind its lists", what)
		}
		if after := roomPicture(s); after != before || roomPicture(other) != before {
			t.Fatalf("%s: an argument is changed:\n%s\nwas\n%s", what, after, before)
		}
		if right != slowSurfaceOk(plain) {
			t.Fatalf("%s: with spare room behind its lists SurfaceOk is %v", what, right)
		}
		lists, texts := surfaceStretches(s)
		checkApart(t, what, []stretch{textStretch(text)}, texts)
		flatLists, flatTexts := grammarStretches(g)
		checkApart(t, what+", flattened", flatLists, lists)
		checkApart(t, what+", flattened", flatTexts, texts)
		checkEachApart(t, what+", flattened", flatLists)
	}
}

func TestReadSurfacesShareNoMemory(t *testing.T) {
	texts := []string{"", "S", "S -> ;", "S -> \"12345678\" [a-z] ;", "S -> n:N(1,!@) ( \"a\" { n < (5 + 1) } | [a-c] )* ( )? | ;\nN(a,b) -> c:S | ( { a } )+ ;"}
	for seed := range 300 {
		texts = append(texts, slowShowSurface(someSurface(seeded(seed))))
	}
	for _, plain := range texts {
		bytes := []byte(plain)
		// A text over bytes that can be looked at, and turned, afterwards.
		text := unsafe.String(unsafe.SliceData(bytes), len(bytes))
		s, ok := impl.ReadSurface(text)
		again, _ := impl.ReadSurface(text)
		if string(bytes) != plain {
			t.Fatalf("ReadSurface(%q): the argument is now %q", plain, bytes)
		}
		lists, names := surfaceStretches(s)
		moreLists, _ := surfaceStretches(again)
		checkApart(t, plain, names, []stretch{textStretch(text)})
		checkApart(t, plain, lists, moreLists)
		checkEachApart(t, plain, lists)
		for i := range bytes {
			bytes[i] = '~'
		}
		want, right := slowReadSurface(plain)
		if ok != right || surfacePicture(s) != surfacePicture(want) {
			t.Fatalf("ReadSurface(%q) = %s once the argument is turned", plain, surfacePicture(s))
		}
	}
}

// What stands in the room behind a list is not of it.
func TestRoomBehindSurfacesIsNotLookedAt(t *testing.T) {
	s := oneBody(aRow(aBind("b", "D"), aText("a")), aRow(anIf(number(1))))
	row := placeOf(s, impl.SnRow)
	cut := turned(s, func(s *impl.Surface) { s.Nodes[row].Kids = s.Nodes[row].Kids[:1] })
	refuseSurface(t, "a Kid behind the list", cut)
	refuseSurface(t, "a rule behind the list", turned(s, func(s *impl.Surface) { s.Rules = s.Rules[:1] }))
	refuseSurface(t, "nodes behind the list", turned(s, func(s *impl.Surface) { s.Nodes = s.Nodes[:len(s.Nodes)-1] }))
	params := []string{"a", "b", "c"}
	s = paramBody("a", aRow(anIf(asked("b"))))
	s.Rules[1].Params = params[:1]
	refuseSurface(t, "a name behind Params", s)
	s = paramBody("a", aRow(aBind("c", "D"), aGroup(aRow(aBind("b", "D")))))
	s.Rules[1].Params = params[:1]
	takeSurface(t, "bound as those behind Params", s)
	if !slices.Equal(params, []string{"a", "b", "c"}) {
		t.Errorf("the room behind Params is now %q", params)
	}
}

// What is far too great is refused, and soon.
func TestHugeSurfaces(t *testing.T) {
	nodes := slices.Repeat([]impl.SNode{{Kind: impl.SnRow}}, 200000)
	refuseSurface(t, "many nodes", impl.Surface{Nodes: nodes[:5000], Rules: []impl.SRule{{Name: "S"}}})
	if impl.SurfaceOk(impl.Surface{Nodes: nodes, Rules: []impl.SRule{{Name: "S"}}}) {
		t.Error("200000 nodes are right")
	}
	many := slices.Repeat([]int{0}, 200000)
	if impl.SurfaceOk(impl.Surface{Nodes: []impl.SNode{{Kind: impl.SnRow}, {Kind: impl.SnAlt, Kids: many}}, Rules: []impl.SRule{{Name: "S", Body: 1}}}) {
		t.Error("200000 Kids are right")
	}
	rules := slices.Repeat([]impl.SRule{{Name: "S", Body: 1}}, 200000)
	if impl.SurfaceOk(impl.Surface{Nodes: []impl.SNode{{Kind: impl.SnRow}, {Kind: impl.SnAlt, Kids: []int{0}}}, Rules: rules}) {
		t.Error("200000 rules are right")
	}
	args := slices.Repeat([]impl.Expr{number(1)}, 200000)
	if impl.SurfaceOk(oneBody(aRow(aCall("N", args...)))) {
		t.Error("200000 Args are right")
	}
	for _, part := range []string{"(", "S -> ", "S -> (", "S -> { (", "!", "S -> { !", "S -> ; ", "a:", "N("} {
		readsNot(t, strings.Repeat(part, 600/len(part)))
		readsNot(t, strings.Repeat(part, 200000))
	}
}

func TestSurfacesAnswerTheSameAgain(t *testing.T) {
	whole := allKinds()
	text, _ := impl.ShowSurface(whole)
	for range 30 {
		comesBack(t, "all kinds", whole)
		refuseSurface(t, "bound twice", oneBody(aRow(aBind("b", "D"), aBind("b", "D"))))
		takeSurface(t, "bound", oneBody(aRow(aBind("b", "D"))))
		readsNot(t, "S -> T ;")
		readsNot(t, "S -> ( ;")
		readsNot(t, "S -> "+strings.Repeat("(", 20)+strings.Repeat(")", 20)+";")
		reads(t, "S -> "+strings.Repeat("(", 19)+strings.Repeat(")", 19)+";")
		s, _ := impl.ReadSurface(text)
		for i := range s.Nodes {
			s.Nodes[i] = impl.SNode{Kind: 77, Text: "over"}
		}
		readsAs(t, text, whole)
	}
}
