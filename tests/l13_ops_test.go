package tests

import (
	"fmt"
	"slices"
	"strconv"
	"strings"
	"testing"
	"unsafe"

	"loop.example/g00243/impl"
)

// opsOf has a word for each operator: its Sign, its Level, and an r when it is Right.
func opsOf(written string) []impl.Op {
	list := []impl.Op{}
	for _, word := range strings.Fields(written) {
		figures, right := strings.CutSuffix(word[1:], "r")
		level, err := strconv.Atoi(figures)
		if err != nil {
			panic(word)
		}
		list = append(list, impl.Op{Sign: word[:1], Level: level, Right: right})
	}
	return list
}

func eachSign() []string { return strings.Fields("+ - * ^ < > = ,") }

func slowOpsOk(list []impl.Op) bool {
	signs, sides := map[string]bool{}, map[int]bool{}
	for _, op := range list {
		right, there := sides[op.Level]
		switch {
		case !slices.Contains(eachSign(), op.Sign), signs[op.Sign]:
			return false
		case op.Level <= 0, op.Level >= 10, there && right != op.Right:
			return false
		}
		signs[op.Sign], sides[op.Level] = true, op.Right
	}
	return len(list) > 0 && len(list) < 7
}

// noLess is !(L < p).
func noLess(level int) impl.Sym {
	return symIf(exprOf(num(level), named("p"), pair(impl.ExLess, 0, 1), not(2)))
}

func tighter(level int) impl.Sym { return symCall("E", number(level)) }

// withOps is a grammar with these alternatives of E, and the last one of A.
func withOps(alts ...impl.Alt) impl.Grammar {
	return grammarOf(
		ruleOf("S", "", altOf(tighter(0))),
		ruleOf("E", "p", append(alts, altOf(symCall("A")))...),
		ruleOf("A", "", altOf(symSet("0-9")), altOf(symText("("), tighter(0), symText(")"))))
}

func slowOpsGrammar(list []impl.Op) (impl.Grammar, bool) {
	if !slowOpsOk(list) {
		return impl.Grammar{}, false
	}
	alts := []impl.Alt{}
	for _, op := range list {
		levels := []int{op.Level, op.Level + 1}
		if op.Right {
			slices.Reverse(levels)
		}
		alts = append(alts, altOf(noLess(op.Level), tighter(levels[0]), symText(op.Sign), tighter(levels[1])))
	}
	return withOps(alts...), true
}

// slowPiece is a piece of a row: what is bound by now, or else an operator or a parenthesis.
type slowPiece struct {
	told string
	sign string
	op   impl.Op
}

func slowPieces(list []impl.Op, text string) ([]slowPiece, bool) {
	pieces := []slowPiece{}
	for _, sign := range strings.Split(text, "") {
		at := slices.IndexFunc(list, func(op impl.Op) bool { return op.Sign == sign })
		switch {
		case at >= 0:
			pieces = append(pieces, slowPiece{sign: sign, op: list[at]})
		case sign == "(" || sign == ")":
			pieces = append(pieces, slowPiece{sign: sign})
		case len(sign) == 1 && sign >= "0" && sign <= "9":
			pieces = append(pieces, slowPiece{told: sign})
		default:
			return nil, false
		}
	}
	return pieces, true
}

// slowIsFirst: of two operators one behind the other, whether the first one binds first.
func slowIsFirst(first, second impl.Op) bool {
	if first.Level != second.Level {
		return first.Level > second.Level
	}
	return !first.Right
}

// slowRowBound binds, again and again, an operator that binds ahead of both its neighbours.
func slowRowBound(pieces []slowPiece) (string, bool) {
	for at, piece := range pieces {
		if (piece.told != "") != (at%2 == 0) || piece.sign == "(" || piece.sign == ")" {
			return "", false
		}
	}
	if len(pieces)%2 == 0 {
		return "", false
	}
	for len(pieces) > 1 {
		for at := 1; at < len(pieces); at += 2 {
			op := pieces[at].op
			if at > 1 && slowIsFirst(pieces[at-2].op, op) || at+2 < len(pieces) && !slowIsFirst(op, pieces[at+2].op) {
				continue
			}
			told := fmt.Sprintf("(%s%s%s)", pieces[at-1].told, op.Sign, pieces[at+1].told)
			pieces = slices.Concat(pieces[:at-1], []slowPiece{{told: told}}, pieces[at+2:])
			break
		}
	}
	return pieces[0].told, true
}

// slowClimb goes by the words: what is in parentheses first, the innermost ahead of all, then operator by operator.
func slowClimb(list []impl.Op, text string) (string, bool) {
	pieces, ok := slowPieces(list, text)
	if !ok || !slowOpsOk(list) || len(text) > 12 {
		return "", false
	}
	for {
		closes := slices.IndexFunc(pieces, func(piece slowPiece) bool { return piece.sign == ")" })
		if closes < 0 {
			return slowRowBound(pieces)
		}
		opens := closes - 1
		for opens >= 0 && pieces[opens].sign != "(" {
			opens--
		}
		if opens < 0 {
			return "", false
		}
		told, ok := slowRowBound(pieces[opens+1 : closes])
		if !ok {
			return "", false
		}
		pieces = slices.Concat(pieces[:opens], []slowPiece{{told: told}}, pieces[closes+1:])
	}
}

// slowShowTwo goes by the Names of the rules, and takes the Sign out of the text.
func slowShowTwo(list []impl.Op, text string, tree impl.Tree) string {
	g, ok := slowOpsGrammar(list)
	if !ok || !slowTreeOk(g, text, tree) {
		return ""
	}
	var tell func(at int) string
	tell = func(at int) string {
		node := tree.Nodes[at]
		switch name := g.Rules[node.Rule].Name; {
		case name == "A" && len(node.Kids) == 0:
			return text[node.From:node.To]
		case name == "E" && len(node.Kids) == 2:
			first, second := tree.Nodes[node.Kids[0]], tree.Nodes[node.Kids[1]]
			return "(" + tell(node.Kids[0]) + text[first.To:second.From] + tell(node.Kids[1]) + ")"
		}
		return tell(node.Kids[0])
	}
	return tell(len(tree.Nodes) - 1)
}

// checkOps holds OpsOk and OpsGrammar against the slow ones, and answers the grammar.
func checkOps(t *testing.T, what string, list []impl.Op) (impl.Grammar, bool) {
	t.Helper()
	got, ok := impl.OpsGrammar(list)
	want, right := slowOpsGrammar(list)
	if ok != right || impl.OpsOk(list) != right || plainPicture(got) != plainPicture(want) {
		t.Fatalf("%s: OpsOk(%v) = %v, OpsGrammar %v\n%snot %v\n%s", what, list, impl.OpsOk(list), ok, plainPicture(got), right, plainPicture(want))
	}
	if impl.GrammarOk(got) != right || slowGrammarOk(got) != right {
		t.Fatalf("%s: GrammarOk of OpsGrammar(%v) = %v", what, list, impl.GrammarOk(got))
	}
	return got, ok
}

func takeOps(t *testing.T, what string, list []impl.Op) {
	t.Helper()
	if _, ok := checkOps(t, what, list); !ok {
		t.Fatalf("%s: OpsOk(%v) = false", what, list)
	}
	for _, text := range []string{"", "1", "(1)", "1+2", "1+2+3", "1-2*3"} {
		checkBinding(t, list, text)
	}
}

// refuseOps: with a list that is not right, nothing is bound, and no tree is told.
func refuseOps(t *testing.T, what string, list []impl.Op) {
	t.Helper()
	if g, ok := checkOps(t, what, list); ok || g.Rules != nil {
		t.Fatalf("%s: OpsGrammar(%v) = %v, %v", what, list, g, ok)
	}
	for _, text := range []string{"", "1", "(1)", "1+2", "1+2*3", "1-2"} {
		if told, ok := impl.Climb(list, text); ok || told != "" {
			t.Fatalf("%s: Climb(%v, %q) = %q, %v", what, list, text, told, ok)
		}
		for _, tree := range []impl.Tree{{}, figureTree(), sumTree()} {
			if told := impl.ShowTwo(list, text, tree); told != "" {
				t.Fatalf("%s: ShowTwo(%v, %q, %v) = %q", what, list, text, tree, told)
			}
		}
	}
}

// figureTree is of a figure alone, sumTree of +1 over a text like 1+2.
func figureTree() impl.Tree {
	return treeOf(treeNode(2, 0, nil, 0, 1), treeNode(1, 1, []int{0}, 0, 1, 0), treeNode(0, 0, nil, 0, 1, 1))
}

func sumTree() impl.Tree {
	return treeOf(
		treeNode(2, 0, nil, 0, 1), treeNode(1, 1, []int{1}, 0, 1, 0),
		treeNode(2, 0, nil, 2, 3), treeNode(1, 1, []int{2}, 2, 3, 2),
		treeNode(1, 0, []int{0}, 0, 3, 1, 3), treeNode(0, 0, nil, 0, 3, 4))
}

func checkClimb(t *testing.T, list []impl.Op, text string) (string, bool) {
	t.Helper()
	got, ok := impl.Climb(list, text)
	want, right := slowClimb(list, text)
	if got != want || ok != right {
		t.Fatalf("Climb(%v, %q) = %q, %v, not %q, %v", list, text, got, ok, want, right)
	}
	if again, ok := impl.Climb(list, got); len(got) <= 12 && (again != got || ok != right) {
		t.Fatalf("Climb(%v, %q) = %q, and of that %q, %v", list, text, got, again, ok)
	}
	return got, ok
}

// checkBinding is the promise: what is climbed is what the grammar reads, and it reads that in one way.
func checkBinding(t *testing.T, list []impl.Op, text string) (string, bool) {
	t.Helper()
	told, ok := checkClimb(t, list, text)
	g, right := impl.OpsGrammar(list)
	if _, runs := impl.RunGoal(g, text, "S", nil, 0); runs != (right && len(text) <= 12) || impl.Accepts(g, text) != ok {
		t.Fatalf("%v, %q: Climb is %v, RunGoal %v, Accepts %v", list, text, ok, runs, impl.Accepts(g, text))
	}
	tree, there := impl.FirstTree(g, text, "S", nil, 0, len(text))
	if shown := impl.ShowTwo(list, text, tree); there != ok || shown != told || shown != slowShowTwo(list, text, tree) {
		t.Fatalf("%v, %q: Climb is %q, %v, and ShowTwo of the first tree %q, %v", list, text, told, ok, shown, there)
	}
	if !ok {
		return told, ok
	}
	want := oneOf(impl.HeightOf(tree) <= 8)
	if count := impl.CountTrees(g, text, "S", nil, 0, len(text), 8); count != want {
		t.Fatalf("%v, %q: CountTrees = %d, not %d", list, text, count, want)
	}
	return told, ok
}

func climbsAs(t *testing.T, list string, text, want string) {
	t.Helper()
	if got, ok := checkBinding(t, opsOf(list), text); !ok || got != want {
		t.Errorf("Climb(%s, %q) = %q, %v, not %q", list, text, got, ok, want)
	}
}

func climbsNot(t *testing.T, list string, texts ...string) {
	t.Helper()
	for _, text := range texts {
		if got, ok := checkBinding(t, opsOf(list), text); ok || got != "" {
			t.Errorf("Climb(%s, %q) = %q, %v", list, text, got, ok)
		}
	}
}

// someLists are right, each of another kind.
func someLists() []string {
	return []string{
		"+1", "^9r", "+1 ^2r", "*2 +1", "+1 -1", "^3r =3r", "+5 -5 *5", "<4r >4r =4r",
		",1 +4 -4 ^9r", "^9 +4r -4r ,1", "+1 -2 *3 ^4 <5 >6", "+6r -5r *4r ^3r <2r >1r",
		"+7 -7 *7 ^7 <7 >7", "+7r -7r *7r ^7r <7r >7r", ",1r =2r <3 +4 *5 ^9r",
	}
}

// All that is bound here is worked out by hand.
func TestOneOperatorByHand(t *testing.T) {
	climbsAs(t, "+1", "7", "7")
	climbsAs(t, "+1", "0+9", "(0+9)")
	climbsAs(t, "+1", "1+2+3", "((1+2)+3)")
	climbsAs(t, "+1", "1+2+3+4", "(((1+2)+3)+4)")
	climbsAs(t, "+1", "1+2+3+4+5+6", "(((((1+2)+3)+4)+5)+6)")
	climbsAs(t, "^9r", "7", "7")
	climbsAs(t, "^9r", "0^9", "(0^9)")
	climbsAs(t, "^9r", "1^2^3", "(1^(2^3))")
	climbsAs(t, "^9r", "1^2^3^4", "(1^(2^(3^4)))")
	climbsAs(t, "^9r", "1^2^3^4^5^6", "(1^(2^(3^(4^(5^6)))))")
}

func TestTwoLevelsByHand(t *testing.T) {
	climbsAs(t, "+1 ^2r", "1+2^3^4+5", "((1+(2^(3^4)))+5)")
	climbsAs(t, "+1 ^2r", "1+2^3", "(1+(2^3))")
	climbsAs(t, "+1 ^2r", "1^2+3", "((1^2)+3)")
	climbsAs(t, "+1 ^2r", "1^2^3+4", "((1^(2^3))+4)")
	climbsAs(t, "+1 ^2r", "1+2+3^4", "((1+2)+(3^4))")
	climbsAs(t, "+2 ^1r", "1+2^3", "((1+2)^3)")
	climbsAs(t, "+2 ^1r", "1^2+3", "(1^(2+3))")
	climbsAs(t, "+2 ^1r", "1^2+3+4^5", "(1^(((2+3)+4)^5))")
	climbsAs(t, "+2r ^1", "1^2+3+4^5", "((1^(2+(3+4)))^5)")
	climbsAs(t, "+2r ^1", "1+2^3^4+5", "(((1+2)^3)^(4+5))")
}

func TestTheSameLevelByHand(t *testing.T) {
	climbsAs(t, "+1 -1", "1+2-3", "((1+2)-3)")
	climbsAs(t, "+1 -1", "1-2+3", "((1-2)+3)")
	climbsAs(t, "+1 -1", "1-2-3", "((1-2)-3)")
	climbsAs(t, "-1 +1", "1-2+3-4+5", "((((1-2)+3)-4)+5)")
	climbsAs(t, "^3r =3r", "1^2=3", "(1^(2=3))")
	climbsAs(t, "^3r =3r", "1=2^3", "(1=(2^3))")
	climbsAs(t, "=3r ^3r", "1=2^3=4^5", "(1=(2^(3=(4^5))))")
	climbsAs(t, "+5 -5 *5", "1+2*3-4", "(((1+2)*3)-4)")
	climbsAs(t, "+5 -5 *5", "1*2-3+4", "(((1*2)-3)+4)")
	climbsAs(t, "<4r >4r =4r", "1<2=3>4", "(1<(2=(3>4)))")
	climbsAs(t, "<4r >4r =4r", "1>2<3=4", "(1>(2<(3=4)))")
	climbsAs(t, "+7 -7 *7 ^7 <7 >7", "1+2-3*4^5<6", "(((((1+2)-3)*4)^5)<6)")
	climbsAs(t, "+7r -7r *7r ^7r <7r >7r", "1+2-3*4^5<6", "(1+(2-(3*(4^(5<6)))))")
}

// Between two of one Level stands one of another.
func TestTheSameLevelApartByHand(t *testing.T) {
	climbsAs(t, "+1 -1 *2", "1+2*3-4", "((1+(2*3))-4)")
	climbsAs(t, "+1 -1 *2", "1*2-3*4+5*6", "(((1*2)-(3*4))+(5*6))")
	climbsAs(t, "+1r -1r *2", "1+2*3-4", "(1+((2*3)-4))")
	climbsAs(t, "+1r -1r *2", "1*2-3*4+5*6", "((1*2)-((3*4)+(5*6)))")
	climbsAs(t, "*2 <2 +1", "1*2+3<4", "((1*2)+(3<4))")
	climbsAs(t, "*2 <2 +1r", "1*2<3+4<5*6", "(((1*2)<3)+((4<5)*6))")
	climbsAs(t, "*2r <2r +1", "1*2<3+4<5*6", "((1*(2<3))+(4<(5*6)))")
	climbsAs(t, ",1 +4 -4 ^9r", "1,2+3-4^5", "(1,((2+3)-(4^5)))")
	climbsAs(t, ",1 +4 -4 ^9r", "1^2-3,4+5,6", "((((1^2)-3),(4+5)),6)")
	climbsAs(t, "^9 +4r -4r ,1", "1+2-3^4,5", "((1+(2-(3^4))),5)")
}

func TestEachOrderOfThreeLevelsByHand(t *testing.T) {
	// It is all the same in which order they are listed, and which Levels lie between.
	for _, list := range []string{"+1 *5 ^9r", "^9r *5 +1", "*2 ^3r +1", "^9 +7 *8r"} {
		climbsAs(t, list, "1+2*3^4", "(1+(2*(3^4)))")
		climbsAs(t, list, "1+2^3*4", "(1+((2^3)*4))")
		climbsAs(t, list, "1*2+3^4", "((1*2)+(3^4))")
		climbsAs(t, list, "1*2^3+4", "((1*(2^3))+4)")
		climbsAs(t, list, "1^2+3*4", "((1^2)+(3*4))")
		climbsAs(t, list, "1^2*3+4", "(((1^2)*3)+4)")
	}
}

func TestSixLevelsByHand(t *testing.T) {
	rising := "+1 -2 *3 ^4 <5 >6"
	climbsAs(t, rising, "1+2-3*4^5<6", "(1+(2-(3*(4^(5<6)))))")
	climbsAs(t, rising, "1>2<3^4*5-6", "(((((1>2)<3)^4)*5)-6)")
	climbsAs(t, rising, "1*2+3>4-5^6", "((1*2)+((3>4)-(5^6)))")
	climbsAs(t, rising, "1-2>3+4<5*6", "((1-(2>3))+((4<5)*6))")
	mixed := ",1r =2r <3 +4 *5 ^9r"
	climbsAs(t, mixed, "1,2=3<4+5*6", "(1,(2=(3<(4+(5*6)))))")
	climbsAs(t, mixed, "1^2*3+4<5=6", "(((((1^2)*3)+4)<5)=6)")
	climbsAs(t, mixed, "1=2=3,4<5<6", "((1=(2=3)),((4<5)<6))")
	climbsAs(t, mixed, "1^2^3*4*5,6", "((((1^(2^3))*4)*5),6)")
}

func TestParenthesesByHand(t *testing.T) {
	list := "+1 *2 ^3r"
	climbsAs(t, list, "(7)", "7")
	climbsAs(t, list, "((7))", "7")
	climbsAs(t, list, "(((((7)))))", "7")
	climbsAs(t, list, "(1)+2", "(1+2)")
	climbsAs(t, list, "1+(2)", "(1+2)")
	climbsAs(t, list, "(1)+(2)", "(1+2)")
	climbsAs(t, list, "(1+2)", "(1+2)")
	climbsAs(t, list, "((1+2))", "(1+2)")
	climbsAs(t, list, "(((1)+(2)))", "(1+2)")
	climbsAs(t, list, "(1+2)*3", "((1+2)*3)")
	climbsAs(t, list, "1*(2+3)", "(1*(2+3))")
	climbsAs(t, list, "1*(2+3)*4", "((1*(2+3))*4)")
	climbsAs(t, list, "1+(2+3)+4", "((1+(2+3))+4)")
	climbsAs(t, list, "(1+2)*(3+4)", "((1+2)*(3+4))")
	climbsAs(t, list, "1+(2+(3+4))", "(1+(2+(3+4)))")
	climbsAs(t, list, "((1*2)*3)*4", "(((1*2)*3)*4)")
	climbsAs(t, list, "1*(2*3)", "(1*(2*3))")
	climbsAs(t, list, "(1^2)^3", "((1^2)^3)")
	climbsAs(t, list, "1^(2^3)^4", "(1^((2^3)^4))")
	climbsAs(t, list, "(1^2)^3^4", "((1^2)^(3^4))")
	climbsAs(t, list, "(1+2^3)^4", "((1+(2^3))^4)")
	climbsAs(t, list, "(1+2*3)*4+5", "(((1+(2*3))*4)+5)")
	climbsAs(t, list, "(1)*((2)+3)", "(1*(2+3))")
	climbsAs(t, list, "((1+2)*3)^4", "(((1+2)*3)^4)")
}

func TestWhatIsNoRow(t *testing.T) {
	for _, list := range []string{"+1", "+1 *2", "*1 +2r", "+3r *3r"} {
		climbsNot(t, list, "", "+", "+1", "1+", "+1+2", "1+2+", "1++2", "1+++2", "(+1)", "(1+)", "+(1)", "(1)+", "(1)++(2)")
		climbsNot(t, list, "12", "1+23", "12+3", "(1)2", "1(2)", "(1)(2)", "(12)", "1+2(3)", "(1+2)3", "(1+2)(3+4)")
		climbsNot(t, list, "()", "1+()", "()+1", "(())", "1()", "()1", "(1)()", "((1)+())", "((1)())")
		climbsNot(t, list, "(", ")", "(1", "1)", "((1)", "(1))", ")(", "(1+2", "1+2)", "1+(2", "1)+2", "(1+(2)", ")1(", "1)(2", "1)+(2", "(1)+(2))", "((1+2)")
		climbsNot(t, list, "a", "a+b", "1-2", "1+a", "1+ 2", " 1", "1 ", "1/2", "[1]", "1+2\n", "\x00", "1\x00+2", "½", "1+½", "１", "\xff", "1.5", "-1")
	}
	climbsNot(t, "*1", "1+2", "+", "1*2+3", "1**2", "*")
	climbsNot(t, "+1 *2", "1+*2", "1*+2", "*1+2", "1+2*", "1+(*2)", "(1+)*2")
	climbsNot(t, "-1", "-1", "1--2", "1-(-2)", "1-", "--")
}

// A row has one byte more than twice its operators, and two for each pair of parentheses: so it is never 12 long.
func TestTextsOf12And13Bytes(t *testing.T) {
	climbsAs(t, "+1", "1+2+3+4+5+6", "(((((1+2)+3)+4)+5)+6)")
	climbsAs(t, "+1", "1+(2+3+4+5)", "(1+(((2+3)+4)+5))")
	climbsNot(t, "+1", "1+2+3+4+5+67", "1+2+3+4+5+6+", "(1+2+3+4+5+6", "1+2+3+4+5+6)", "((((((1)))))", "()1+2+3+4+5+6"[:12])
	climbsNot(t, "+1", "1+2+3+4+5+6+7", "(1+2+3+4+5+6)", "((((((1))))))", "(((1)))+(((2)))"[:13], "(1)+2+3+4+5+6", "1+(2)+3+4+5+6", "1+2+3+4+5+(6)")
	climbsNot(t, "+1", "1+2+3+4+5+6+7+8", "(((((((1)))))))", strings.Repeat("1+", 400)+"1", strings.Repeat("(", 500)+"1"+strings.Repeat(")", 500))
	for length := range 40 {
		text := strings.Repeat("(", length) + "7" + strings.Repeat(")", length)
		if told, ok := checkBinding(t, opsOf("+1"), text); ok != (length <= 5) || ok && told != "7" {
			t.Errorf("%d parentheses around: %q, %v", length, told, ok)
		}
		text = "7" + strings.Repeat("+7", length)
		if _, ok := checkBinding(t, opsOf("+1"), text); ok != (length <= 5) {
			t.Errorf("%d operators: %v", length, ok)
		}
	}
}

// Each byte there is stands at each place of a row.
func TestEachByteAtEachPlace(t *testing.T) {
	for _, list := range []string{"+1 *2", "+2r", "=1 <1 >1 ,1 ^1 -1"} {
		ops := opsOf(list)
		for _, text := range []string{"1", "1+2", "(1)", "(1+2)*3", "1=(2)"} {
			for at := range len(text) {
				for _, b := range []byte(allBytes()) {
					checkClimb(t, ops, withByte(text, at, b))
				}
			}
		}
	}
	for _, b := range []byte(allBytes()) {
		told, ok := impl.Climb(opsOf("+1"), string([]byte{b}))
		if isFigure := b >= '0' && b <= '9'; ok != isFigure || ok && told != string([]byte{b}) {
			t.Errorf("Climb of the byte %d = %q, %v", b, told, ok)
		}
		told, ok = impl.Climb(opsOf("+1 -2 *3 ^4 <5 >6"), "1"+string([]byte{b})+"2")
		if isSign := strings.IndexByte("+-*^<>", b) >= 0; ok != isSign || ok && told != "(1"+string([]byte{b})+"2)" {
			t.Errorf("Climb with the byte %d between = %q, %v", b, told, ok)
		}
	}
}

func opsGrammarIs(t *testing.T, list string, want impl.Grammar) {
	t.Helper()
	got, ok := checkOps(t, list, opsOf(list))
	if !ok || plainPicture(got) != plainPicture(want) {
		t.Errorf("OpsGrammar(%s) = %v\n%snot\n%s", list, ok, plainPicture(got), plainPicture(want))
	}
}

// The grammars here are worked out by hand.
func TestOpsGrammarsByHand(t *testing.T) {
	opsGrammarIs(t, "+1", withOps(altOf(noLess(1), tighter(1), symText("+"), tighter(2))))
	opsGrammarIs(t, "^9r", withOps(altOf(noLess(9), tighter(10), symText("^"), tighter(9))))
	opsGrammarIs(t, "+1 ^2r", climbGrammar())
	opsGrammarIs(t, "*5 +5", withOps(
		altOf(noLess(5), tighter(5), symText("*"), tighter(6)),
		altOf(noLess(5), tighter(5), symText("+"), tighter(6))))
	opsGrammarIs(t, "=9r ,1 -8 <9r >1 ^4r", withOps(
		altOf(noLess(9), tighter(10), symText("="), tighter(9)),
		altOf(noLess(1), tighter(1), symText(","), tighter(2)),
		altOf(noLess(8), tighter(8), symText("-"), tighter(9)),
		altOf(noLess(9), tighter(10), symText("<"), tighter(9)),
		altOf(noLess(1), tighter(1), symText(">"), tighter(2)),
		altOf(noLess(4), tighter(5), symText("^"), tighter(4))))
}

// Field by field, without a helper.
func TestAnOpsGrammarFieldByField(t *testing.T) {
	g, ok := impl.OpsGrammar([]impl.Op{{Sign: "-", Level: 3, Right: true}})
	if !ok || len(g.Rules) != 3 || g.Rules[0].Name != "S" || g.Rules[1].Name != "E" || g.Rules[2].Name != "A" {
		t.Fatalf("%v, %v", g, ok)
	}
	s, e, a := g.Rules[0], g.Rules[1], g.Rules[2]
	if fmt.Sprint(s.Params, e.Params, a.Params) != "[] [p] []" || len(s.Alts) != 1 || len(e.Alts) != 2 || len(a.Alts) != 2 {
		t.Fatalf("%v", g)
	}
	want := "{[{3 E [{[{1 0  []}]}] }]}" // S
	if got := fmt.Sprint(s.Alts[0]); got != want {
		t.Errorf("S: %s, not %s", got, want)
	}
	want = "{[{4  [{[{1 3  []} {2 0 p []} {8 0  [0 1]} {11 0  [2]}]}] } {3 E [{[{1 4  []}]}] } {1 - [] } {3 E [{[{1 3  []}]}] }]}"
	if got := fmt.Sprint(e.Alts[0]); got != want {
		t.Errorf("E: %s, not %s", got, want)
	}
	if got := fmt.Sprint(e.Alts[1], a.Alts[0]); got != "{[{3 A [] }]} {[{2 0-9 [] }]}" {
		t.Errorf("E and A: %s", got)
	}
	if got := fmt.Sprint(a.Alts[1]); got != "{[{1 ( [] } {3 E [{[{1 0  []}]}] } {1 ) [] }]}" {
		t.Errorf("A: %s", got)
	}
}

// Written out and made plain, they are the same.
func TestOpsGrammarsAsTheyAreWritten(t *testing.T) {
	written := map[string]string{
		"+1":     `E(p) -> { !(1 < p) } E(1) "+" E(2) | A ;`,
		"^9r":    `E(p) -> { !(9 < p) } E(10) "^" E(9) | A ;`,
		"-2 ,2":  `E(p) -> { !(2 < p) } E(2) "-" E(3) | { !(2 < p) } E(2) "," E(3) | A ;`,
		"*3 <1r": `E(p) -> { !(3 < p) } E(3) "*" E(4) | { !(1 < p) } E(2) "<" E(1) | A ;`,
		"+1 -2 *3 ^4 <5 >6r": `E(p) -> { !(1 < p) } E(1) "+" E(2) | { !(2 < p) } E(2) "-" E(3) | { !(3 < p) } E(3) "*" E(4)` +
			` | { !(4 < p) } E(4) "^" E(5) | { !(5 < p) } E(5) "<" E(6) | { !(6 < p) } E(7) ">" E(6) | A ;`,
	}
	for list, rule := range written {
		g, ok := impl.Flatten(surfaceIn(t, `S -> E(0) ; `+rule+` A -> [0-9] | "(" E(0) ")" ;`))
		if !ok {
			t.Fatalf("%s is not made plain", rule)
		}
		opsGrammarIs(t, list, g)
	}
}

func TestListsOfEachLength(t *testing.T) {
	for _, written := range someLists() {
		takeOps(t, "a right list", opsOf(written))
	}
	for length := range 9 {
		for _, side := range []string{"", "r"} {
			same, rising := "", ""
			for at, sign := range eachSign()[:length] {
				same += fmt.Sprintf("%s4%s ", sign, side)
				rising += fmt.Sprintf("%s%d%s ", sign, at+1, side)
			}
			for _, list := range []string{same, rising} {
				if length >= 1 && length <= 6 {
					takeOps(t, "1 to 6", opsOf(list))
				} else {
					refuseOps(t, "none, or more than 6", opsOf(list))
				}
			}
		}
	}
	refuseOps(t, "no list", nil)
}

func TestSignsThatMayBe(t *testing.T) {
	for _, sign := range eachSign() {
		for _, right := range []bool{false, true} {
			list := []impl.Op{{Sign: sign, Level: 5, Right: right}}
			takeOps(t, sign, list)
			if told, ok := checkBinding(t, list, "1"+sign+"2"); !ok || told != "(1"+sign+"2)" {
				t.Errorf("%s: %q, %v", sign, told, ok)
			}
			want := "((1" + sign + "2)" + sign + "3)"
			if right {
				want = "(1" + sign + "(2" + sign + "3))"
			}
			if told, ok := checkBinding(t, list, "1"+sign+"2"+sign+"3"); !ok || told != want {
				t.Errorf("%s: %q, %v", sign, told, ok)
			}
		}
	}
	for _, b := range []byte(allBytes()) {
		list := []impl.Op{{Sign: string([]byte{b}), Level: 1}}
		if _, ok := checkOps(t, "a byte", list); ok != (strings.IndexByte("+-*^<>=,", b) >= 0) {
			t.Errorf("the Sign %q: %v", b, ok)
		}
	}
}

func TestSignsThatMayNotBe(t *testing.T) {
	for _, sign := range []string{"", "++", "+-", "-*", "*^", "^<", "<>", ">=", "=,", "+-*^<>=,", " ", "+ ", " +", "/", "!", "(", ")", "0", "9", "a", "&", ";", ".", ":", "[", "]", "@", "\x00", "+\x00", "\xff", "×", "＋"} {
		for _, list := range [][]impl.Op{
			{{Sign: sign, Level: 1}},
			{{Sign: sign, Level: 1, Right: true}},
			{{Sign: sign, Level: 1}, {Sign: "+", Level: 1}},
			{{Sign: "+", Level: 1}, {Sign: sign, Level: 2}},
			{{Sign: "+", Level: 1}, {Sign: sign, Level: 2}, {Sign: "*", Level: 3}},
		} {
			refuseOps(t, fmt.Sprintf("the Sign %q", sign), list)
		}
	}
}

func TestLevelsAtTheirEdges(t *testing.T) {
	for _, right := range []bool{false, true} {
		for level := 1; level <= 9; level++ {
			takeOps(t, "1 to 9", []impl.Op{{Sign: "+", Level: level, Right: right}})
			takeOps(t, "1 to 9", []impl.Op{{Sign: "-", Level: 10 - level, Right: right}, {Sign: "+", Level: level, Right: right}})
		}
		for _, level := range []int{0, 10, -1, 11, 99, 100, -9, 256 + 5, 1<<32 + 5, leastInt, greatestInt} {
			for at := range 3 {
				list := opsOf("+1 -2 *3")
				list[at].Level, list[at].Right = level, right
				refuseOps(t, fmt.Sprintf("the Level %d", level), list)
			}
			refuseOps(t, fmt.Sprintf("the Level %d", level), []impl.Op{{Sign: "+", Level: level, Right: right}})
		}
	}
	climbsAs(t, "+1 *9", "1+2*3+4*5", "((1+(2*3))+(4*5))")
	climbsAs(t, "+9r *1r", "1+2*3+4*5", "((1+2)*((3+4)*5))")
	climbsAs(t, "+9 *8", "1+2*3+4*5", "(((1+2)*(3+4))*5)")
}

func TestASignTwice(t *testing.T) {
	for _, list := range []string{
		"+1 +1", "+1 +2", "+1 +2r", "+1r +1r", "+1 -1 +1", "+1 -2 +3", "-1 +2 +3", "-9 -9 +1",
		"+1 -2 *3 ^4 <5 +6", "+1 -2 *3 ^4 <5 <5", "+1 -1 *1 ^1 *1 <1",
	} {
		refuseOps(t, "a Sign twice", opsOf(list))
	}
}

func TestOneLevelToTwoSides(t *testing.T) {
	for _, list := range []string{
		"+1 -1r", "+1r -1", "+9 -9r", "+1 -2 *1r", "+1r -2 *1", "+1 -1 *1r", "+1r -1 *1", "+1 -1r *1",
		"+1 -2 *3 ^4 <5 >1r", "+1 -2 *3 ^4 <5 >5r", "+1r -1r *1r ^1r <1r >1",
	} {
		refuseOps(t, "one Level to two sides", opsOf(list))
	}
	takeOps(t, "each Level to a side of its own", opsOf("+1 -2r *1 ^2r <3 >4r"))
}

// Each two of a few operators, right or not.
func TestListsOfTwo(t *testing.T) {
	right := 0
	for _, first := range eachSign() {
		for _, second := range eachSign() {
			for levels := range 121 {
				for sides := range 4 {
					list := []impl.Op{{Sign: first, Level: levels / 11, Right: sides/2 == 1}, {Sign: second, Level: levels % 11, Right: sides%2 == 1}}
					if ok := impl.OpsOk(list); ok != slowOpsOk(list) {
						t.Fatalf("OpsOk(%v) = %v", list, ok)
					}
					right += oneOf(impl.OpsOk(list))
				}
			}
		}
	}
	// 56 pairs of Signs; 72 pairs of unlike Levels with 4 pairs of sides, 9 of the same with 2.
	if right != 56*(72*4+9*2) {
		t.Errorf("%d lists are right", right)
	}
}

// rowMaker makes all rows of a length, with a 1 for each figure.
type rowMaker struct {
	signs string
	made  map[int][]string
}

func (m *rowMaker) things(length int) []string {
	if length == 1 {
		return []string{"1"}
	}
	list := []string{}
	for _, row := range m.rows(length - 2) {
		list = append(list, "("+row+")")
	}
	return list
}

func (m *rowMaker) rows(length int) []string {
	if length < 1 {
		return nil
	}
	if m.made[length] == nil {
		list := m.things(length)
		for first := 1; first < length-1; first++ {
			for _, thing := range m.things(first) {
				for _, rest := range m.rows(length - first - 1) {
					for _, sign := range strings.Split(m.signs, "") {
						list = append(list, thing+sign+rest)
					}
				}
			}
		}
		m.made[length] = list
	}
	return m.made[length]
}

// numbered has other figures in their place: 1, 2, 3 and so on.
func numbered(text string) string {
	bytes, figure := []byte(text), 0
	for at := range bytes {
		if bytes[at] == '1' {
			figure++
			bytes[at] = byte('0' + figure%10)
		}
	}
	return string(bytes)
}

// allRows are all rows of up to so many bytes.
func allRows(signs string, length int) []string {
	m, list := &rowMaker{signs, map[int][]string{}}, []string{}
	for n := 1; n <= length; n++ {
		for _, row := range m.rows(n) {
			list = append(list, numbered(row))
		}
	}
	return list
}

func TestAllRowsOfTwoOperators(t *testing.T) {
	t.Parallel()
	rows := allRows("+*", 11)
	// 1, 3, 11, 45, 197 and 903 of 1, 3, 5, 7, 9 and 11 bytes.
	if len(rows) != 1160 {
		t.Fatalf("%d rows", len(rows))
	}
	for _, written := range []string{"+1 *2", "+4r *4r"} {
		for _, row := range rows {
			if _, ok := checkBinding(t, opsOf(written), row); !ok {
				t.Fatalf("Climb(%s, %q) = false", written, row)
			}
		}
	}
	for _, written := range []string{"+1 *2r", "+2 *1", "+2r *1r", "+2r *1", "+3 *3", "*9 +8r"} {
		for at, row := range rows {
			if len(row) <= 5 || at%13 == 0 {
				checkBinding(t, opsOf(written), row)
			}
			if _, ok := checkClimb(t, opsOf(written), row); !ok {
				t.Fatalf("Climb(%s, %q) = false", written, row)
			}
		}
	}
}

// Each row of six figures with each operator between, without parentheses.
func TestAllRowsOfSixFigures(t *testing.T) {
	t.Parallel()
	for _, written := range []string{"+1 -1 *2", "^3r =3r +2", "+1 -2 *3 ^4 <5 >6", "+7r -7r *7r ^7r <7r >7r", ",1r =2r <3 +4 *5 ^9r"} {
		list, signs := opsOf(written), ""
		for _, op := range list {
			signs += op.Sign
		}
		many := 0
		textsOf(signs, 5, func(between string) {
			text := "1"
			for i, sign := range strings.Split(between, "") {
				text += sign + strconv.Itoa(i+2)
			}
			if _, ok := checkClimb(t, list, text); !ok {
				t.Fatalf("Climb(%s, %q) = false", written, text)
			}
			many++
			if many%(1+2*len(list)*len(list)) == 0 {
				checkBinding(t, list, text)
			}
		})
	}
}

// All texts there are of a few bytes, rows or not.
func TestAllShortTexts(t *testing.T) {
	for _, written := range []string{"+1 *2", "*3r +3r"} {
		list, rows := opsOf(written), 0
		textsOf("1+*()", 4, func(text string) { checkBinding(t, list, text) })
		textsOf("1+*()", 7, func(text string) {
			_, ok := checkClimb(t, list, text)
			rows += oneOf(ok)
		})
		// Each row of the maker, which has a 1 for each figure, and no other text.
		if rows != 1+3+11+45 {
			t.Errorf("%s: %d texts are rows", written, rows)
		}
	}
	textsOf("7+-a( ", 4, func(text string) { checkClimb(t, opsOf("+1"), text) })
}

// someOps is a right list; few Levels, so that many are the same.
func someOps(next func(n int) int) []impl.Op {
	signs, list, sides := eachSign(), []impl.Op{}, next(512)
	levels := 1 + next(9)
	for range 1 + next(6) {
		at, level := next(len(signs)), 1+next(levels)
		list = append(list, impl.Op{Sign: signs[at], Level: level, Right: sides>>(level-1)&1 == 1})
		signs = slices.Delete(signs, at, at+1)
	}
	return list
}

// someRow is a row of at most so many bytes.
func someRow(next func(n int) int, list []impl.Op, most int) string {
	if most < 3 || next(8) == 0 {
		return strconv.Itoa(next(10))
	}
	if next(3) == 0 {
		return "(" + someRow(next, list, most-2) + ")"
	}
	first := someRow(next, list, 1+next(most-2))
	return first + list[next(len(list))].Sign + someRow(next, list, most-1-len(first))
}

func TestRowsOfManySeeds(t *testing.T) {
	t.Parallel()
	lengths, rows := map[int]int{}, 0
	for seed := range 1800 {
		next := seeded(seed)
		list := someOps(next)
		checkOps(t, fmt.Sprint("seed ", seed), list)
		for i := range 8 {
			text := someRow(next, list, 5+next(9))
			told, ok := checkClimb(t, list, text)
			if ok != (len(text) <= 12) {
				t.Fatalf("seed %d: Climb(%v, %q) = %q, %v", seed, list, text, told, ok)
			}
			if i == 0 {
				checkBinding(t, list, text)
			}
			lengths[len(text)]++
			rows += oneOf(ok)
		}
	}
	if rows < 7000 || lengths[11] < 500 || lengths[13] < 200 || lengths[1] < 500 {
		t.Errorf("%d rows, of these lengths: %v", rows, lengths)
	}
}

// A row with a byte turned, taken out, or put in, is one or not: whatever it is, both ways say the same.
func TestSpoiltRowsOfManySeeds(t *testing.T) {
	rows, others := 0, 0
	for seed := range 1500 {
		next := seeded(seed)
		list := someOps(next)
		row := someRow(next, list, 3+next(9))
		for i := range 8 {
			at, b := next(len(row)), "0129+-*^<>=,()()a "[next(18)]
			text := withByte(row, at, b)
			switch next(3) {
			case 0:
				text = row[:at] + row[at+1:]
			case 1:
				text = row[:at] + string(b) + row[at:]
			}
			_, ok := checkClimb(t, list, text)
			if i == 0 {
				checkBinding(t, list, text)
			}
			rows, others = rows+oneOf(ok), others+oneOf(!ok)
		}
	}
	if rows < 500 || others < 5000 {
		t.Errorf("%d rows, %d others", rows, others)
	}
}

func TestSpoiltListsOfManySeeds(t *testing.T) {
	right, wrong := 0, 0
	for seed := range 6000 {
		next := seeded(seed)
		list := someOps(next)
		op := &list[next(len(list))]
		switch next(5) {
		case 0:
			op.Sign = []string{"+", "-", "", "+-", "(", "=", ","}[next(7)]
		case 1:
			op.Level = next(13) - 1
		case 2:
			op.Right = !op.Right
		case 3:
			list = append(list, someOps(next)...)
		case 4:
			list = list[:next(len(list))]
		}
		what := fmt.Sprint("spoilt, seed ", seed)
		if _, ok := checkOps(t, what, list); ok {
			right++
		} else {
			refuseOps(t, what, list)
			wrong++
		}
	}
	if right < 1000 || wrong < 1000 {
		t.Errorf("%d right, %d wrong", right, wrong)
	}
}

// What is bound hangs on which Level is the greater one alone, not on which they are, nor on the order of the list.
func TestLevelsInTheSameOrder(t *testing.T) {
	for _, lists := range [][]string{
		{"+1 *2 ^3r", "+1 *5 ^9r", "+7 *8 ^9r", "^9r +1 *2", "*4 ^5r +3"},
		{"+1 *1 ^2", "*8 +8 ^9", "^3 +1 *1"},
		{"+5r *5r ^1", "*9r +9r ^8", "^1 *2r +2r"},
	} {
		for _, row := range allRows("+*^", 7) {
			want, _ := checkClimb(t, opsOf(lists[0]), row)
			for _, other := range lists[1:] {
				if got, ok := impl.Climb(opsOf(other), row); !ok || got != want {
					t.Fatalf("%q: %q with %s, and %q, %v with %s", row, want, lists[0], got, ok, other)
				}
			}
		}
	}
}

// Of one that has no two operators side by side, it is all the same how they bind.
func TestWhatIsBoundStaysBound(t *testing.T) {
	lists, short := []string{"+1 *2", "+2 *1", "+1r *2", "+3 *3", "+3r *3r", "*9 +8r"}, 0
	for _, row := range allRows("+*", 9) {
		for _, list := range lists {
			told, ok := impl.Climb(opsOf(list), row)
			if !ok {
				t.Fatalf("Climb(%s, %q) = false", list, row)
			}
			// No figure, operator or place of them is changed; parentheses are two for each operator.
			if bare(told) != bare(row) || strings.Count(told, "(") != len(bare(row))/2 || len(told) != 2*len(bare(row))-1 {
				t.Fatalf("Climb(%s, %q) = %q", list, row, told)
			}
			if len(told) > 12 {
				continue
			}
			short++
			for _, other := range lists {
				if again, ok := impl.Climb(opsOf(other), told); !ok || again != told {
					t.Fatalf("Climb(%s, %q) = %q, and of that with %s %q, %v", list, row, told, other, again, ok)
				}
			}
		}
	}
	if short < 500 {
		t.Errorf("%d are short enough", short)
	}
}

// bare is the text without its parentheses.
func bare(text string) string { return strings.NewReplacer("(", "", ")", "").Replace(text) }

// From any place to any other, with any number: there is one tree where there is a row whose outer operators are tight enough, and else none.
func TestEveryGoalHasOneWay(t *testing.T) {
	trees := 0
	for _, try := range [][]string{
		{"+1 *2", "1+2*3+4"}, {"+1 *2 ^3r", "1^2^3*4+5"}, {"+3 -3", "1-2+3-4"}, {"^3r =3r", "1=2^3=4"},
		{"+2 *5 ^9r", "(1+2)*3^4"}, {"+1 -1 *9", "1*(2-3)+4"}, {"=1r <2", "((1=2)=3)"}, {"+4r", "1+2+3+4+5+6"},
	} {
		list, text := opsOf(try[0]), try[1]
		g, _ := impl.OpsGrammar(list)
		for from := range len(text) + 1 {
			for p := range 12 {
				ends := impl.EndsOf(g, text, "E", []int{p}, from)
				for to := from; to <= len(text); to++ {
					told, want := slowClimb(list, text[from:to])
					for _, op := range outerOps(list, text[from:to]) {
						want = want && op.Level >= p
					}
					if slices.Contains(ends, to) != want {
						t.Fatalf("%s, %q: E(%d) from %d to %d: %v", try[0], text, p, from, to, !want)
					}
					tree, ok := impl.FirstTree(g, text, "E", []int{p}, from, to)
					if count := impl.CountTrees(g, text, "E", []int{p}, from, to, 8); ok != want || count != oneOf(want && impl.HeightOf(tree) <= 8) {
						t.Fatalf("%s, %q: E(%d) from %d to %d has %d trees", try[0], text, p, from, to, count)
					}
					if shown := impl.ShowTwo(list, text, tree); ok && shown != told {
						t.Fatalf("%s, %q: E(%d) from %d to %d is %q, not %q", try[0], text, p, from, to, shown, told)
					}
					trees += oneOf(ok)
				}
			}
		}
	}
	if trees < 500 {
		t.Errorf("%d trees", trees)
	}
}

// outerOps are the operators that stand in no parentheses.
func outerOps(list []impl.Op, text string) []impl.Op {
	deep, ops := 0, []impl.Op{}
	for _, sign := range strings.Split(text, "") {
		deep += oneOf(sign == "(") - oneOf(sign == ")")
		for _, op := range list {
			if op.Sign == sign && deep == 0 {
				ops = append(ops, op)
			}
		}
	}
	return ops
}

func TestRowsAreListedOnce(t *testing.T) {
	for _, list := range []string{"+1 *2", "+1 *1", "+2r *2r", "+3 *1r"} {
		g, _ := impl.OpsGrammar(opsOf(list))
		for _, row := range allRows("+*", 7) {
			trees := impl.ListTrees(g, row, 8, 12)
			first, _ := impl.FirstTree(g, row, "S", nil, 0, len(row))
			if len(trees) != oneOf(impl.HeightOf(first) <= 8) || len(trees) == 1 && treePicture(g, trees[0]) != treePicture(g, first) {
				t.Fatalf("%s, %q: %d trees", list, row, len(trees))
			}
			for height := -1; height <= 10; height++ {
				if count := impl.CountTrees(g, row, "S", nil, 0, len(row), height); count != oneOf(height >= impl.HeightOf(first) && len(trees) == 1) {
					t.Fatalf("%s, %q: %d of at most %d", list, row, count, height)
				}
			}
		}
	}
}

// With each of six operators of a Level of its own, all of them are asked for at each of 13 places: 7 goals of E, one of A, and that of S.
func TestGoalsOfOperatorsAreNeverTooMany(t *testing.T) {
	g, _ := impl.OpsGrammar(opsOf("+1 -2 *3 ^4 <5 >6"))
	if chart, ok := impl.RunGoal(g, "((((((((((((", "S", nil, 0); !ok || len(chart.Goals) != 13*8+1 {
		t.Errorf("%d goals, %v", len(chart.Goals), ok)
	}
	for _, written := range []string{"+1 -3r *5 ^7r <9 >2", "+9r -7 *5r ^3 <1r >8", "+1 -3 *5 ^7 <9 >2"} {
		list := opsOf(written)
		for _, text := range []string{"((((((((((((", "1+1-1*1^1<1>", "1>1<1^1*1-1+", "(1+(1-(1*(1^", "1+1-1*1^1<1", "(1<1)(1>1)^1"} {
			checkBinding(t, list, text)
		}
	}
}

func showsTwo(t *testing.T, list, text string, tree impl.Tree, want string) {
	t.Helper()
	got, slow := impl.ShowTwo(opsOf(list), text, tree), slowShowTwo(opsOf(list), text, tree)
	if got != want || slow != want {
		t.Errorf("ShowTwo(%s, %q, %v) = %q, not %q (slowly %q)", list, text, tree, got, want, slow)
	}
}

// headOf is the tree of the first so many nodes.
func headOf(tree impl.Tree, count int) impl.Tree { return impl.Tree{Nodes: tree.Nodes[:count]} }

// The trees here are put together by hand; what is told is of the last node, whichever rule it is of.
func TestShownByHand(t *testing.T) {
	for count, want := range []string{"", "7", "7", "7"} {
		showsTwo(t, "+1", "7", headOf(figureTree(), count), want)
	}
	for count, want := range []string{"", "1", "1", "2", "2", "(1+2)", "(1+2)"} {
		showsTwo(t, "+1", "1+2", headOf(sumTree(), count), want)
	}
	power := treeOf(
		treeNode(2, 0, nil, 0, 1), treeNode(1, 2, []int{5}, 0, 1, 0),
		treeNode(2, 0, nil, 2, 3), treeNode(1, 2, []int{5}, 2, 3, 2),
		treeNode(2, 0, nil, 4, 5), treeNode(1, 2, []int{4}, 4, 5, 4),
		treeNode(1, 1, []int{4}, 2, 5, 3, 5), treeNode(1, 1, []int{0}, 0, 5, 1, 6), treeNode(0, 0, nil, 0, 5, 7))
	for count, want := range []string{"", "1", "1", "2", "2", "3", "3", "(2^3)", "(1^(2^3))", "(1^(2^3))"} {
		showsTwo(t, "+1 ^4r", "1^2^3", headOf(power, count), want)
	}
	within := treeOf(
		treeNode(2, 0, nil, 1, 2), treeNode(1, 1, []int{1}, 1, 2, 0), treeNode(2, 0, nil, 3, 4), treeNode(1, 1, []int{2}, 3, 4, 2),
		treeNode(1, 0, []int{0}, 1, 4, 1, 3), treeNode(2, 1, nil, 0, 5, 4), treeNode(1, 1, []int{0}, 0, 5, 5), treeNode(0, 0, nil, 0, 5, 6))
	for count, want := range []string{"", "8", "8", "9", "9", "(8+9)", "(8+9)", "(8+9)", "(8+9)"} {
		showsTwo(t, "+1", "(8+9)", headOf(within, count), want)
	}
	showsTwo(t, "+1", "1+(8+9)", impl.Tree{}, "")
}

// A tree is told by the text that it is handed with, as long as it is one of that.
func TestShownOverAnotherText(t *testing.T) {
	showsTwo(t, "+1", "7+8", sumTree(), "(7+8)")
	showsTwo(t, "+1", "1+2+3", sumTree(), "(1+2)")
	showsTwo(t, "+1", "1+2)(", sumTree(), "(1+2)")
	showsTwo(t, "+1", "1+2xxxxxxxxx", sumTree(), "(1+2)")
	showsTwo(t, "*1", "1*2", sumTree(), "(1*2)")
	for _, text := range []string{"", "1", "1+", "1-2", "1*2", "a+2", "1+a", "11+2", "(1+2)", "+1+2", "1 +2", "1++", "1+2xxxxxxxxxx", "1+2" + strings.Repeat("+3", 500)} {
		showsTwo(t, "+1", text, sumTree(), "")
	}
	for _, list := range []string{"-1", "+2", "+9", "+1r", "-1 +1", "+1 -1", "+1 -2", "*1"} {
		showsTwo(t, list, "1+2", sumTree(), "")
	}
	showsTwo(t, "", "1+2", sumTree(), "")
	showsTwo(t, "+0", "1+2", sumTree(), "")
	showsTwo(t, "+1 +1", "1+2", sumTree(), "")
}

// Any number that a goal may have is as good, if the operator is tight enough for it.
func TestShownWithOtherNumbers(t *testing.T) {
	for p := -1; p <= 101; p++ {
		figure := treeOf(treeNode(2, 0, nil, 0, 1), treeNode(1, 1, []int{p}, 0, 1, 0))
		sum := headOf(sumTree(), 5)
		sum.Nodes[4].Args = []int{p}
		want := []string{"", ""}
		if p >= 0 && p <= 99 {
			want[0] = "1"
		}
		if p == 0 || p == 1 {
			want[1] = "(1+2)"
		}
		showsTwo(t, "+1", "1+2", figure, want[0])
		showsTwo(t, "+1", "1+2", sum, want[1])
	}
	// Each Kid is of the number that is wanted, and of no other.
	for first := range 12 {
		for second := range 12 {
			sum, want := sumTree(), ""
			sum.Nodes[1].Args, sum.Nodes[3].Args = []int{first}, []int{second}
			if first == 1 && second == 2 {
				want = "(1+2)"
			}
			showsTwo(t, "+1", "1+2", sum, want)
			want = ""
			if first == 6 && second == 5 {
				want = "(1+2)"
			}
			showsTwo(t, "+5r", "1+2", sum, want)
		}
	}
}

// turnedNode is the sum's tree with one of its nodes turned.
func turnedNode(at int, turn func(node *impl.TreeNode)) impl.Tree {
	tree := sumTree()
	turn(&tree.Nodes[at])
	return tree
}

func TestWhatIsNoTreeIsNotShown(t *testing.T) {
	refused := map[string]impl.Tree{"no nodes": {}, "an empty list": treeOf()}
	for at := range sumTree().Nodes {
		for _, by := range []int{-100, -1, 1, 2, 100, leastInt, greatestInt} {
			refused[fmt.Sprintf("the Rule of %d and %d", at, by)] = turnedNode(at, func(node *impl.TreeNode) { node.Rule += by })
			refused[fmt.Sprintf("the Alt of %d and %d", at, by)] = turnedNode(at, func(node *impl.TreeNode) { node.Alt += by })
			refused[fmt.Sprintf("the From of %d and %d", at, by)] = turnedNode(at, func(node *impl.TreeNode) { node.From += by })
			refused[fmt.Sprintf("the To of %d and %d", at, by)] = turnedNode(at, func(node *impl.TreeNode) { node.To += by })
		}
		refused[fmt.Sprint("an Arg more of ", at)] = turnedNode(at, func(node *impl.TreeNode) { node.Args = append(node.Args, 0) })
		refused[fmt.Sprint("a Kid more of ", at)] = turnedNode(at, func(node *impl.TreeNode) { node.Kids = append(node.Kids, 0) })
	}
	for _, at := range []int{1, 3, 4} {
		refused[fmt.Sprint("no Arg of ", at)] = turnedNode(at, func(node *impl.TreeNode) { node.Args = nil })
		refused[fmt.Sprint("another Arg of ", at)] = turnedNode(at, func(node *impl.TreeNode) { node.Args[0] = 100 })
	}
	for _, at := range []int{1, 3, 4, 5} {
		refused[fmt.Sprint("no Kid of ", at)] = turnedNode(at, func(node *impl.TreeNode) { node.Kids = nil })
		for _, kid := range []int{-1, at, at + 1, 100, leastInt, greatestInt} {
			refused[fmt.Sprint("the Kid ", kid, " of ", at)] = turnedNode(at, func(node *impl.TreeNode) { node.Kids[0] = kid })
		}
	}
	refused["one Kid alone"] = turnedNode(4, func(node *impl.TreeNode) { node.Kids = []int{1} })
	refused["the Kids turned round"] = turnedNode(4, func(node *impl.TreeNode) { node.Kids = []int{3, 1} })
	refused["a Kid twice"] = turnedNode(4, func(node *impl.TreeNode) { node.Kids = []int{1, 1} })
	refused["a Kid of another Rule"] = turnedNode(4, func(node *impl.TreeNode) { node.Kids = []int{0, 3} })
	for what, tree := range refused {
		if told := impl.ShowTwo(opsOf("+1"), "1+2", tree); told != "" {
			t.Errorf("%s: %q", what, told)
		}
		refuseTree(t, what, withOps(altOf(noLess(1), tighter(1), symText("+"), tighter(2))), "1+2", tree)
	}
	// A node that the whole does not come to has to be right, too.
	spare := sumTree()
	spare.Nodes = slices.Insert(spare.Nodes, 0, treeNode(2, 0, nil, 1, 2))
	for at := range spare.Nodes {
		for i := range spare.Nodes[at].Kids {
			spare.Nodes[at].Kids[i]++
		}
	}
	showsTwo(t, "+1", "1+2", spare, "")
	spare.Nodes[0] = treeNode(2, 0, nil, 2, 3)
	showsTwo(t, "+1", "1+2", spare, "(1+2)")
}

func TestShownOfAsManyNodesAsThereMayBe(t *testing.T) {
	for count := 1; count <= 70; count++ {
		nodes := []impl.TreeNode{}
		for range count {
			nodes = append(nodes, treeNode(2, 0, nil, 0, 1))
		}
		want := ""
		if count <= 60 {
			want = "5"
		}
		showsTwo(t, "+1", "5", impl.Tree{Nodes: nodes}, want)
		nodes[count-1] = treeNode(1, 1, []int{0}, 0, 1, max(0, count-2))
		if count == 1 {
			want = ""
		}
		showsTwo(t, "+1", "5", impl.Tree{Nodes: nodes}, want)
	}
}

// Trees with a number of one of their nodes turned: where they are still trees, they are told as such.
func TestSpoiltTreesAreNotShown(t *testing.T) {
	t.Parallel()
	still, none := 0, 0
	for seed := range 700 {
		next := seeded(seed)
		list := someOps(next)
		text := someRow(next, list, 11)
		g, _ := impl.OpsGrammar(list)
		tree, ok := impl.FirstTree(g, text, "S", nil, 0, len(text))
		if !ok {
			t.Fatalf("%v, %q: no tree", list, text)
		}
		for range 20 {
			spoilt := turnedTree(next, headOf(tree, 1+next(len(tree.Nodes))))
			got, want := impl.ShowTwo(list, text, spoilt), slowShowTwo(list, text, spoilt)
			if got != want {
				t.Fatalf("ShowTwo(%v, %q, %v) = %q, not %q", list, text, spoilt, got, want)
			}
			still, none = still+oneOf(want != ""), none+oneOf(want == "")
		}
	}
	if still < 1000 || none < 1000 {
		t.Errorf("%d are still trees, %d are none", still, none)
	}
}

// roomyOps has its Signs in memory of its own, and room behind it that is filled.
func roomyOps(list []impl.Op) []impl.Op {
	roomy := roomyList(list, impl.Op{Sign: "+", Level: 77, Right: true})
	for i := range roomy {
		roomy[i].Sign = strings.Clone(roomy[i].Sign)
	}
	return roomy
}

func TestOperatorsShareNoMemory(t *testing.T) {
	lists := [][]impl.Op{nil, opsOf("+1 +1"), opsOf("+0")}
	for _, written := range someLists() {
		lists = append(lists, opsOf(written))
	}
	for seed := range 200 {
		lists = append(lists, someOps(seeded(seed)))
	}
	for at, plain := range lists {
		what := fmt.Sprint("list ", at, " ", plain)
		list := roomyOps(plain)
		texts, before := []stretch{}, fmt.Sprint(list[:cap(list)])
		for _, op := range list {
			texts = append(texts, textStretch(op.Sign))
		}
		g, ok := impl.OpsGrammar(list)
		other, _ := impl.OpsGrammar(list)
		flat, flatTexts := grammarStretches(g)
		more, _ := grammarStretches(other)
		checkApart(t, what, flat, append(more, listStretch(list)))
		checkApart(t, what, flatTexts, texts)
		checkEachApart(t, what, flat)
		for _, row := range []string{"7", "(7)", "1+2", "1+(2+3)^4", "1-2", someRow(seeded(at), append(plain, opsOf("+1")...), 11)} {
			bytes := []byte(row)
			text := unsafe.String(unsafe.SliceData(bytes), len(bytes))
			tree, _ := impl.FirstTree(g, text, "S", nil, 0, len(text))
			tree = roomyTree(tree)
			was := roomyTreePicture(tree)
			told, fits := impl.Climb(list, text)
			shown := impl.ShowTwo(list, text, tree)
			checkApart(t, what, []stretch{textStretch(told), textStretch(shown)}, append(texts, textStretch(text)))
			if want, right := slowClimb(plain, row); told != want || fits != right || shown != want {
				t.Fatalf("%s, %q: %q, %v, %q, not %q, %v", what, row, told, fits, shown, want, right)
			}
			if string(bytes) != row || roomyTreePicture(tree) != was {
				t.Fatalf("%s, %q: an argument is changed", what, row)
			}
			// What was answered stays what it was, whatever becomes of the text.
			for i := range bytes {
				bytes[i] = '9'
			}
			if want, _ := slowClimb(plain, row); told != want || shown != want {
				t.Fatalf("%s, %q: the answer has become %q, %q", what, row, told, shown)
			}
		}
		if after := fmt.Sprint(list[:cap(list)]); after != before || impl.OpsOk(list) != ok || ok != slowOpsOk(plain) {
			t.Fatalf("%s: an argument is changed: %s, was %s", what, after, before)
		}
	}
}

// What is not right may be as great as it likes: it is told soon.
func TestHugeOperators(t *testing.T) {
	refuseOps(t, "many", slices.Repeat(opsOf("+1"), 200000))
	refuseOps(t, "a long Sign", []impl.Op{{Sign: strings.Repeat("+", 1<<20), Level: 1}})
	for _, text := range []string{strings.Repeat("(", 1<<20), strings.Repeat("1+", 1<<20) + "1", strings.Repeat("1", 1<<20)} {
		if told, ok := impl.Climb(opsOf("+1"), text); ok || told != "" {
			t.Errorf("a long text: %q, %v", told, ok)
		}
		if told := impl.ShowTwo(opsOf("+1"), text, sumTree()); told != "" {
			t.Errorf("a long text: %q", told)
		}
	}
	if told := impl.ShowTwo(opsOf("+1"), "1", impl.Tree{Nodes: slices.Repeat(figureTree().Nodes[:1], 200000)}); told != "" {
		t.Errorf("many nodes: %q", told)
	}
}

func TestOperatorsAnswerTheSameAgain(t *testing.T) {
	for range 50 {
		climbsAs(t, "+1 *2 ^3r", "1+2*3^4", "(1+(2*(3^4)))")
		g, _ := checkOps(t, "again", opsOf("+1 *2 ^3r"))
		for i := range g.Rules {
			g.Rules[i].Name = "over"
			for j := range g.Rules[i].Alts {
				for k := range g.Rules[i].Alts[j].Syms {
					g.Rules[i].Alts[j].Syms[k].Text = "over"
				}
			}
		}
		refuseOps(t, "a Sign twice", opsOf("+1 +2"))
		climbsNot(t, "+1 *2 ^3r", "1+(2", "1+", "1)")
		climbsAs(t, "+2 *1", "1+2*3", "((1+2)*3)")
		showsTwo(t, "+1", "1+2", sumTree(), "(1+2)")
		showsTwo(t, "+1", "1*2", sumTree(), "")
	}
}
