package tests

import (
	"fmt"
	"maps"
	"math"
	"slices"
	"strings"
	"testing"
	"unsafe"

	"loop.example/g00243/impl"
)

const (
	leastInt    = math.MinInt
	greatestInt = math.MaxInt
)

func exprOf(nodes ...impl.ExNode) impl.Expr { return impl.Expr{Nodes: nodes} }

func num(n int) impl.ExNode { return impl.ExNode{Op: impl.ExNum, Num: n} }

func named(name string) impl.ExNode { return impl.ExNode{Op: impl.ExVar, Name: name} }

func hereNode() impl.ExNode { return impl.ExNode{Op: impl.ExHere} }

func pair(op, left, right int) impl.ExNode { return impl.ExNode{Op: op, Kids: []int{left, right}} }

func not(of int) impl.ExNode { return impl.ExNode{Op: impl.ExNot, Kids: []int{of}} }

// more is the expression with these nodes behind it, in memory of its own.
func more(e impl.Expr, nodes ...impl.ExNode) impl.Expr {
	return exprOf(append(slices.Clone(e.Nodes), nodes...)...)
}

func pairOps() []int {
	return []int{impl.ExAdd, impl.ExSub, impl.ExMul, impl.ExDiv, impl.ExLess, impl.ExSame, impl.ExAnd}
}

// twoNames is one Op of the names a and b.
func twoNames(op int) impl.Expr { return exprOf(named("a"), named("b"), pair(op, 0, 1)) }

// greatest is MaxNum, made of what a node can be.
func greatest() impl.Expr {
	return exprOf(num(99), num(2), pair(impl.ExAdd, 0, 1), pair(impl.ExMul, 0, 2))
}

// least is -MaxNum.
func least() impl.Expr {
	return more(greatest(), num(0), pair(impl.ExSub, 4, 3))
}

// beyondAbove is one beyond MaxNum, beyondBelow one beyond -MaxNum.
func beyondAbove() impl.Expr { return more(greatest(), num(1), pair(impl.ExAdd, 3, 4)) }

func beyondBelow() impl.Expr { return more(least(), num(1), pair(impl.ExSub, 5, 6)) }

// chain is so many nodes, each but the first a not of the one ahead of it.
func chain(length int) impl.Expr {
	e := impl.Expr{}
	for i := range length {
		if i == 0 {
			e.Nodes = append(e.Nodes, num(0))
		} else {
			e.Nodes = append(e.Nodes, not(i-1))
		}
	}
	return e
}

// doubled is so many nodes, each but the first a pair of the one ahead of it with itself.
func doubled(op, length int) impl.Expr {
	e := exprOf(num(1))
	for len(e.Nodes) < length {
		e.Nodes = append(e.Nodes, pair(op, len(e.Nodes)-1, len(e.Nodes)-1))
	}
	return e
}

// just200 comes to 200 nodes, each as often as it does: 1, 3, 7, 15, 31, 63, 127 of the doubled ones, 8, 72 and 200.
func just200() impl.Expr {
	return more(doubled(impl.ExAdd, 7), not(2), pair(impl.ExSub, 5, 7), pair(impl.ExMul, 6, 8))
}

func slowExprOk(e impl.Expr) bool {
	if len(e.Nodes) == 0 || len(e.Nodes) > 20 {
		return false
	}
	for i, n := range e.Nodes {
		kids := map[int]int{impl.ExAdd: 2, impl.ExSub: 2, impl.ExMul: 2, impl.ExDiv: 2, impl.ExLess: 2, impl.ExSame: 2, impl.ExAnd: 2, impl.ExNot: 1}[n.Op]
		numOk, nameOk := n.Num == 0, n.Name == ""
		if n.Op == impl.ExNum {
			numOk = n.Num >= 0 && n.Num < 100
		}
		if n.Op == impl.ExVar {
			nameOk = slowVarName(n.Name)
		}
		if n.Op < 1 || n.Op > 11 || len(n.Kids) != kids || !numOk || !nameOk {
			return false
		}
		for _, kid := range n.Kids {
			if kid < 0 || kid >= i {
				return false
			}
		}
	}
	return true
}

func oneOf(holds bool) int {
	if holds {
		return 1
	}
	return 0
}

// slowPair reckons towards 0 by sizes and signs, as no quotient of the language does.
func slowPair(op, a, b int) (int, bool) {
	size := func(n int) int { return max(n, -n) }
	switch op {
	case impl.ExAdd:
		return a + b, true
	case impl.ExSub:
		return a - b, true
	case impl.ExMul:
		return a * b, true
	case impl.ExDiv:
		quotient := 0
		for rest := size(a); b != 0 && rest >= size(b); rest -= size(b) {
			quotient++
		}
		if a < 0 != (b < 0) {
			quotient = -quotient
		}
		return quotient, b != 0
	case impl.ExLess:
		return oneOf(a-b < 0), true
	case impl.ExSame:
		return oneOf(a-b == 0), true
	}
	return oneOf(a*b != 0), true
}

// slowEval goes down from the whole, as the document's words do; nothing is kept of a node that is come to again.
func slowEval(e impl.Expr, env []impl.Var, here int) (int, bool) {
	if !slowExprOk(e) {
		return 0, false
	}
	var down func(place int) (int, bool)
	down = func(place int) (int, bool) {
		n := e.Nodes[place]
		value, ok := 0, true
		switch n.Op {
		case impl.ExNum:
			value = n.Num
		case impl.ExVar:
			value, ok = impl.EnvGet(env, n.Name)
		case impl.ExHere:
			value = here
		case impl.ExNot:
			value, ok = down(n.Kids[0])
			value, _ = slowPair(impl.ExSame, value, 0)
		default:
			left, leftOk := down(n.Kids[0])
			right, rightOk := down(n.Kids[1])
			value, ok = slowPair(n.Op, left, right)
			ok = ok && leftOk && rightOk
		}
		if !ok || value > 9999 || value < -9999 {
			return 0, false
		}
		return value, true
	}
	return down(len(e.Nodes) - 1)
}

func slowShow(e impl.Expr) string {
	if !slowExprOk(e) {
		return ""
	}
	come := 0
	var down func(place int) string
	down = func(place int) string {
		n := e.Nodes[place]
		if come++; come > 200 {
			return ""
		}
		switch n.Op {
		case impl.ExNum:
			return fmt.Sprint(n.Num)
		case impl.ExVar:
			return n.Name
		case impl.ExHere:
			return "@"
		case impl.ExNot:
			return "!" + down(n.Kids[0])
		}
		return fmt.Sprintf("(%s %c %s)", down(n.Kids[0]), "+-*/<=&"[n.Op-4], down(n.Kids[1]))
	}
	if text := down(len(e.Nodes) - 1); come <= 200 {
		return text
	}
	return ""
}

func slowFree(e impl.Expr) []string {
	names := map[string]int{}
	for _, n := range e.Nodes {
		if slowExprOk(e) && n.Op == impl.ExVar {
			names[n.Name]++
		}
	}
	return slices.Sorted(maps.Keys(names))
}

func checkEval(t *testing.T, e impl.Expr, env []impl.Var, here, want int) {
	t.Helper()
	if got, ok := impl.EvalExpr(e, env, here); !ok || got != want {
		t.Fatalf("EvalExpr(%v, %v, %d) = %d, %v; want %d, true", e, env, here, got, ok, want)
	}
}

func refuseEval(t *testing.T, e impl.Expr, env []impl.Var, here int) {
	t.Helper()
	if got, ok := impl.EvalExpr(e, env, here); ok || got != 0 {
		t.Fatalf("EvalExpr(%v, %v, %d) = %d, %v; want 0, false", e, env, here, got, ok)
	}
}

func checkShow(t *testing.T, e impl.Expr, want string) {
	t.Helper()
	if got := impl.ShowExpr(e); got != want {
		t.Fatalf("ShowExpr(%v) = %q; want %q", e, got, want)
	}
}

func checkFree(t *testing.T, e impl.Expr, want ...string) {
	t.Helper()
	if got := impl.FreeOf(e); !slices.Equal(got, want) {
		t.Fatalf("FreeOf(%v) = %q; want %q", e, got, want)
	}
}

func checkRight(t *testing.T, e impl.Expr) {
	t.Helper()
	if !impl.ExprOk(e) {
		t.Fatalf("ExprOk(%v) = false", e)
	}
}

// refuseExpr holds a wrong expression against every function: none tells anything of it.
func refuseExpr(t *testing.T, e impl.Expr) {
	t.Helper()
	if impl.ExprOk(e) {
		t.Fatalf("ExprOk(%v) = true", e)
	}
	refuseEval(t, e, env("a", 1, "b", 2, "n", 3), 4)
	checkFree(t, e)
	checkShow(t, e, "")
}

func checkAsSlow(t *testing.T, e impl.Expr, env []impl.Var, here int) {
	t.Helper()
	if got, want := impl.ExprOk(e), slowExprOk(e); got != want {
		t.Fatalf("ExprOk(%v) = %v", e, got)
	}
	if want, ok := slowEval(e, env, here); ok {
		checkEval(t, e, env, here, want)
	} else {
		refuseEval(t, e, env, here)
	}
	checkShow(t, e, slowShow(e))
	checkFree(t, e, slowFree(e)...)
}

// someExpr is a right expression of this length, another one for each seed.
func someExpr(seed uint64, length int) impl.Expr {
	below := func(n int) int {
		seed = seed*6364136223846793005 + 1442695040888963407
		return int(seed >> 33 % uint64(n))
	}
	e := impl.Expr{}
	for i := range length {
		op := impl.ExNum + below(11)
		if i == 0 {
			op = impl.ExNum + below(3)
		}
		switch op {
		case impl.ExNum:
			e.Nodes = append(e.Nodes, num([]int{0, 1, 2, 7, 99}[below(5)]))
		case impl.ExVar:
			e.Nodes = append(e.Nodes, named([]string{"a", "ab", "n", "zzzz"}[below(4)]))
		case impl.ExHere:
			e.Nodes = append(e.Nodes, hereNode())
		case impl.ExNot:
			e.Nodes = append(e.Nodes, not(below(i)))
		default:
			// Kids that are near are taken more often, so that the whole comes to most nodes.
			e.Nodes = append(e.Nodes, pair(op, i-1-below(min(i, 3)), i-1-below(i)))
		}
	}
	return e
}

// someExprs calls each with right expressions of every length.
func someExprs(count int, each func(e impl.Expr)) {
	for length := 1; length <= 20; length++ {
		for seed := range count {
			each(someExpr(uint64(1000*seed+length), length))
		}
	}
}

func TestExprOfOneNode(t *testing.T) {
	known := env("a", 7, "n", -3, "zzzz", 0)
	for _, n := range []int{0, 1, 9, 10, 99} {
		checkEval(t, exprOf(num(n)), nil, 0, n)
		checkShow(t, exprOf(num(n)), fmt.Sprint(n))
		checkFree(t, exprOf(num(n)))
	}
	for _, v := range known {
		checkEval(t, exprOf(named(v.Name)), known, 5, v.Num)
		checkShow(t, exprOf(named(v.Name)), v.Name)
		checkFree(t, exprOf(named(v.Name)), v.Name)
	}
	for _, here := range []int{0, 1, 12, -1, impl.MaxNum, -impl.MaxNum} {
		checkEval(t, exprOf(hereNode()), known, here, here)
		checkEval(t, exprOf(hereNode()), nil, here, here)
	}
	checkShow(t, exprOf(hereNode()), "@")
	checkFree(t, exprOf(hereNode()))
}

func TestEvalExprOfEachOp(t *testing.T) {
	for _, c := range []struct{ op, a, b, want int }{
		{impl.ExAdd, 2, 3, 5},
		{impl.ExAdd, -2, 2, 0},
		{impl.ExAdd, -2, -3, -5},
		{impl.ExSub, 2, 3, -1},
		{impl.ExSub, 3, 2, 1},
		{impl.ExSub, -2, -3, 1},
		{impl.ExMul, 4, 5, 20},
		{impl.ExMul, -4, 5, -20},
		{impl.ExMul, -4, -5, 20},
		{impl.ExMul, 0, -5, 0},
		{impl.ExDiv, 7, 2, 3},
		{impl.ExDiv, -7, 2, -3},
		{impl.ExDiv, 7, -2, -3},
		{impl.ExDiv, -7, -2, 3},
		{impl.ExDiv, 6, 3, 2},
		{impl.ExDiv, -6, 3, -2},
		{impl.ExDiv, -1, 2, 0},
		{impl.ExDiv, 1, -2, 0},
		{impl.ExDiv, 0, -5, 0},
		{impl.ExDiv, -9999, -1, 9999},
		{impl.ExDiv, 9999, -1, -9999},
		{impl.ExDiv, -9999, 9998, -1},
		{impl.ExDiv, -9998, 9999, 0},
		{impl.ExLess, 1, 2, 1},
		{impl.ExLess, 2, 2, 0},
		{impl.ExLess, 3, 2, 0},
		{impl.ExLess, -2, -1, 1},
		{impl.ExLess, -1, -2, 0},
		{impl.ExLess, -1, 0, 1},
		{impl.ExSame, 2, 2, 1},
		{impl.ExSame, -2, 2, 0},
		{impl.ExSame, 0, 0, 1},
		{impl.ExSame, 0, 1, 0},
		{impl.ExAnd, 1, 1, 1},
		{impl.ExAnd, 2, -4, 1},
		{impl.ExAnd, 0, 1, 0},
		{impl.ExAnd, 1, 0, 0},
		{impl.ExAnd, 0, 0, 0},
	} {
		checkEval(t, twoNames(c.op), env("a", c.a, "b", c.b), 0, c.want)
	}
	for n, want := range map[int]int{0: 1, 1: 0, 2: 0, -1: 0, 9999: 0, -9999: 0} {
		checkEval(t, exprOf(named("a"), not(0)), env("a", n), 0, want)
		checkEval(t, exprOf(hereNode(), not(0)), nil, n, want)
	}
}

func TestEvalExprOfManyNumbers(t *testing.T) {
	numbers := []int{-9999, -9998, -5000, -101, -100, -99, 99, 100, 101, 5000, 9998, 9999}
	for n := -21; n <= 21; n++ {
		numbers = append(numbers, n)
	}
	for _, op := range pairOps() {
		for _, a := range numbers {
			for _, b := range numbers {
				checkAsSlow(t, twoNames(op), env("a", a, "b", b), 0)
			}
		}
	}
}

func TestExprWithinOthers(t *testing.T) {
	known := env("a", 7, "b", -3, "n", 5)
	for _, c := range []struct {
		e    impl.Expr
		here int
		want int
		show string
		free []string
	}{
		{exprOf(named("n"), num(2), pair(impl.ExMul, 0, 1), hereNode(), pair(impl.ExAdd, 2, 3)), 3, 13, "((n * 2) + @)", []string{"n"}},
		{exprOf(named("n"), num(2), hereNode(), pair(impl.ExAdd, 1, 2), pair(impl.ExMul, 0, 3)), 3, 25, "(n * (2 + @))", []string{"n"}},
		{exprOf(num(9), num(4), pair(impl.ExSub, 0, 1), num(3), pair(impl.ExSub, 2, 3)), 50, 2, "((9 - 4) - 3)", nil},
		{exprOf(num(9), num(4), num(3), pair(impl.ExSub, 1, 2), pair(impl.ExSub, 0, 3)), 50, 8, "(9 - (4 - 3))", nil},
		{exprOf(num(4), num(9), pair(impl.ExSub, 1, 0)), 50, 5, "(9 - 4)", nil},
		{exprOf(named("b"), num(2), pair(impl.ExDiv, 0, 1), not(2), not(3)), 50, 1, "!!(b / 2)", []string{"b"}},
		{exprOf(named("n"), named("a"), pair(impl.ExLess, 0, 1), not(2)), 50, 0, "!(n < a)", []string{"a", "n"}},
		{exprOf(named("n"), named("a"), pair(impl.ExLess, 0, 1), named("b"), hereNode(), pair(impl.ExSame, 3, 4), not(5), pair(impl.ExAnd, 2, 6)), 3, 1, "((n < a) & !(b = @))", []string{"a", "b", "n"}},
		{exprOf(num(1), num(2), pair(impl.ExLess, 0, 1), num(3), pair(impl.ExLess, 2, 3)), 50, 1, "((1 < 2) < 3)", nil},
		{exprOf(num(0), not(0), not(1), pair(impl.ExSame, 0, 2)), 50, 1, "(0 = !!0)", nil},
	} {
		checkRight(t, c.e)
		checkEval(t, c.e, known, c.here, c.want)
		checkShow(t, c.e, c.show)
		checkFree(t, c.e, c.free...)
	}
}

func TestExprWithEachOpInEachOther(t *testing.T) {
	for _, outer := range append(pairOps(), impl.ExNot) {
		for _, inner := range append(pairOps(), impl.ExNot) {
			for _, left := range []bool{true, false} {
				nodes := []impl.ExNode{named("a"), named("b"), hereNode(), pair(inner, 0, 1)}
				if inner == impl.ExNot {
					nodes[3] = not(0)
				}
				switch {
				case outer == impl.ExNot:
					nodes = append(nodes, not(3))
				case left:
					nodes = append(nodes, pair(outer, 3, 2))
				default:
					nodes = append(nodes, pair(outer, 2, 3))
				}
				for _, known := range [][]impl.Var{env("a", 6, "b", -4), env("a", 0, "b", 3), env("a", 5, "b", 0), env("a", 9999, "b", 1)} {
					checkAsSlow(t, exprOf(nodes...), known, 2)
				}
			}
		}
	}
}

func TestExprWithKidsOfSeveral(t *testing.T) {
	square := exprOf(named("n"), pair(impl.ExMul, 0, 0))
	checkRight(t, square)
	checkEval(t, square, env("n", -12), 0, 144)
	checkShow(t, square, "(n * n)")
	checkFree(t, square, "n")

	e := more(square, pair(impl.ExSub, 1, 0), not(1), pair(impl.ExAdd, 2, 3), pair(impl.ExAdd, 4, 1))
	checkEval(t, e, env("n", 5), 0, 45)
	checkShow(t, e, "((((n * n) - n) + !(n * n)) + (n * n))")
	checkFree(t, e, "n")

	// The whole of 20 doubled nodes comes to more than a million of them, and is answered all the same.
	checkEval(t, doubled(impl.ExMul, 20), nil, 0, 1)
	checkEval(t, doubled(impl.ExAdd, 14), nil, 0, 8192)
	refuseEval(t, doubled(impl.ExAdd, 15), nil, 0)
}

func TestExprAsItsPartsAre(t *testing.T) {
	known, here := env("a", 6, "ab", -5, "n", 40, "zzzz", 0), 11
	someExprs(60, func(e impl.Expr) {
		// What ends with a node of a right expression is one.
		part := func(place int) (int, bool) { return impl.EvalExpr(exprOf(e.Nodes[:place+1]...), known, here) }
		for place, n := range e.Nodes {
			checkRight(t, exprOf(e.Nodes[:place+1]...))
			got, ok := part(place)
			want, wantOk := got, ok
			switch len(n.Kids) {
			case 1:
				want, wantOk = part(n.Kids[0])
				want = oneOf(want == 0) * oneOf(wantOk)
			case 2:
				left, leftOk := part(n.Kids[0])
				right, rightOk := part(n.Kids[1])
				want, wantOk = slowPair(n.Op, left, right)
				wantOk = wantOk && leftOk && rightOk && want <= 9999 && want >= -9999
				want *= oneOf(wantOk)
			}
			if got != want || ok != wantOk {
				t.Fatalf("EvalExpr(%v) = %d, %v; its parts make %d, %v", e.Nodes[:place+1], got, ok, want, wantOk)
			}
		}
	})
}

func TestWhatNoNameTellsChangesNothing(t *testing.T) {
	lists := [][]impl.Var{
		nil,
		env("a", 6, "ab", -5, "n", 40, "zzzz", 0),
		env("a", 1, "b", 2, "c", 3, "n", 4),
		env("ab", -1, "b", 9999, "m", 7, "o", 8),
		env("n", 3, "zzzz", 12),
	}
	someExprs(30, func(e impl.Expr) {
		free := impl.FreeOf(e)
		for _, list := range lists {
			want, wantOk := impl.EvalExpr(e, list, 5)
			other := impl.EnvOnly(list, free)
			for _, more := range [][]impl.Var{
				other,
				append(env("aa", 1, "b", 77), other...),
				append(slices.Clone(other), env("", 0, "q", leastInt, "zz", greatestInt, "q", 3)...),
			} {
				if got, ok := impl.EvalExpr(e, more, 5); got != want || ok != wantOk {
					t.Fatalf("EvalExpr(%v) = %d, %v of %v; %d, %v of %v", e, got, ok, more, want, wantOk, list)
				}
			}
		}
	})
}

func TestEvalExprWithOtherNames(t *testing.T) {
	e := exprOf(named("n"), num(2), pair(impl.ExAdd, 0, 1))
	checkEval(t, e, env("n", 5), 0, 7)
	for name, n := range map[string]int{"a": 1, "m": -1, "nn": 9999, "o": 0, "z": -9999} {
		list, ok := impl.EnvSet(env("n", 5), name, n)
		if !ok {
			t.Fatalf("EnvSet refuses %q", name)
		}
		checkEval(t, e, list, 0, 7)
	}
	checkEval(t, e, append(env("b", 1, "d", 2, "f", 3, "h", 4, "j", 5), env("n", 5)...), 0, 7)
	for _, list := range [][]impl.Var{nil, env(), env("m", 5), env("nn", 5), env("N", 5), env("", 5), fullEnv()} {
		refuseEval(t, e, list, 0)
	}
	// Without a name there is nothing to be known, nor anything here.
	for _, list := range wrongEnvs() {
		for _, here := range []int{0, impl.MaxNum + 1, -impl.MaxNum - 1, leastInt, greatestInt} {
			checkEval(t, exprOf(num(6), num(7), pair(impl.ExMul, 0, 1)), list, here, 42)
		}
	}
}

func TestEvalExprWithoutAName(t *testing.T) {
	known := env("a", 1, "b", 2)
	refuseEval(t, exprOf(named("c")), known, 0)
	refuseEval(t, exprOf(named("c"), not(0)), known, 0)
	for _, op := range pairOps() {
		checkAsSlow(t, twoNames(op), known, 0)
		refuseEval(t, twoNames(op), env("a", 1), 0)
		refuseEval(t, twoNames(op), env("b", 1), 0)
		// Neither kid is left out, also where the other one tells the answer.
		refuseEval(t, twoNames(op), env("a", 0), 0)
		refuseEval(t, twoNames(op), env("b", 0), 0)
	}
}

// The list need not be right: what EnvGet answers counts.
func TestEvalExprOfWrongLists(t *testing.T) {
	for _, list := range wrongEnvs() {
		for _, name := range []string{"a", "ab", "b", "n", "none"} {
			got, ok := impl.EnvGet(list, name)
			switch {
			case ok && got <= impl.MaxNum && got >= -impl.MaxNum:
				checkEval(t, exprOf(named(name)), list, 0, got)
				checkEval(t, exprOf(named(name), num(0), pair(impl.ExSub, 1, 0)), list, 0, -got)
			default:
				refuseEval(t, exprOf(named(name)), list, 0)
				refuseEval(t, exprOf(named(name), not(0)), list, 0)
			}
		}
	}
	checkEval(t, exprOf(named("a")), env("a", 1, "b", 2, "a", 3), 0, 1)
	checkEval(t, exprOf(named("a")), env("b", 1, "a", 2), 0, 2)
	refuseEval(t, exprOf(named("a")), env("a", 10000, "a", 1), 0)
	checkEval(t, exprOf(named("b")), env("a", 10000, "b", 1), 0, 1)
	checkEval(t, exprOf(named("n")), append(fullEnv(), impl.Var{Name: "n", Num: 7}), 0, 7)
}

func TestExprNodeLimits(t *testing.T) {
	for length := 1; length <= 20; length++ {
		checkRight(t, chain(length))
		checkEval(t, chain(length), nil, 0, oneOf(length%2 == 0))
		checkShow(t, chain(length), strings.Repeat("!", length-1)+"0")
		checkRight(t, doubled(impl.ExAnd, length))
		checkEval(t, doubled(impl.ExAnd, length), nil, 0, 1)
	}
	refuseExpr(t, impl.Expr{})
	refuseExpr(t, exprOf())
	for _, length := range []int{21, 22, 40, 276} {
		refuseExpr(t, chain(length))
		refuseExpr(t, doubled(impl.ExAnd, length))
	}
	names := impl.Expr{}
	for i := range 20 {
		names.Nodes = append(names.Nodes, named(smallLetters[19-i:20-i]))
	}
	checkRight(t, names)
	checkFree(t, names, strings.Split(smallLetters[:20], "")...)
	refuseExpr(t, more(names, num(1)))
}

func TestExprNumLimits(t *testing.T) {
	for n := -120; n <= 220; n++ {
		if n >= 0 && n <= 99 {
			checkRight(t, exprOf(num(n)))
			checkEval(t, exprOf(num(n)), nil, 0, n)
			checkShow(t, exprOf(num(n)), fmt.Sprint(n))
			continue
		}
		refuseExpr(t, exprOf(num(n)))
		refuseExpr(t, exprOf(num(n), not(0)))
	}
	for _, n := range []int{9999, 256, 1 << 32, -1 << 32, greatestInt, leastInt} {
		refuseExpr(t, exprOf(num(n)))
	}
}

func TestEvalExprLimitsOfTheWhole(t *testing.T) {
	checkEval(t, greatest(), nil, 0, impl.MaxNum)
	checkEval(t, least(), nil, 0, -impl.MaxNum)
	refuseEval(t, beyondAbove(), nil, 0)
	refuseEval(t, beyondBelow(), nil, 0)
	for _, c := range []struct{ op, a, b, beyond int }{
		{impl.ExAdd, 9998, 1, 2},
		{impl.ExAdd, -9998, -1, -2},
		{impl.ExSub, 9998, -1, -2},
		{impl.ExSub, -9998, 1, 2},
		{impl.ExMul, 101, 99, 100},
		{impl.ExMul, -101, 99, 100},
		{impl.ExMul, -9999, -1, -2},
	} {
		value, _ := slowPair(c.op, c.a, c.b)
		checkEval(t, twoNames(c.op), env("a", c.a, "b", c.b), 0, value)
		refuseEval(t, twoNames(c.op), env("a", c.a, "b", c.beyond), 0)
	}
	for _, a := range []int{9999, -9999} {
		for _, b := range []int{9999, -9999} {
			for _, op := range pairOps() {
				checkAsSlow(t, twoNames(op), env("a", a, "b", b), 0)
			}
		}
	}
}

func TestEvalExprLimitsBelowTheWhole(t *testing.T) {
	for _, e := range []impl.Expr{beyondAbove(), beyondBelow()} {
		far := len(e.Nodes) - 1
		refuseEval(t, more(e, not(far)), nil, 0)
		refuseEval(t, more(e, not(far), not(far+1), not(far+2)), nil, 0)
		for _, op := range pairOps() {
			for _, n := range []int{0, 1, 99} {
				refuseEval(t, more(e, num(n), pair(op, far, far+1)), nil, 0)
				refuseEval(t, more(e, num(n), pair(op, far+1, far)), nil, 0)
			}
			refuseEval(t, more(e, pair(op, far, far)), nil, 0)
			refuseEval(t, more(e, pair(op, 0, far), not(far+1)), nil, 0)
		}
	}
	// What is at the limit is gone on with.
	checkEval(t, more(greatest(), num(1), pair(impl.ExSub, 3, 4)), nil, 0, 9998)
	checkEval(t, more(greatest(), pair(impl.ExSub, 3, 3)), nil, 0, 0)
	checkEval(t, more(least(), pair(impl.ExAdd, 5, 3)), nil, 0, 0)
	checkEval(t, more(least(), pair(impl.ExDiv, 5, 3)), nil, 0, -1)
	checkEval(t, more(least(), pair(impl.ExLess, 5, 3)), nil, 0, 1)
}

func TestEvalExprWithHereOrANumberBeyond(t *testing.T) {
	for _, n := range []int{impl.MaxNum + 1, -impl.MaxNum - 1, 1 << 31, 1 << 32, 1 << 62, leastInt, leastInt + 1, greatestInt, greatestInt - 1} {
		refuseEval(t, exprOf(hereNode()), nil, n)
		refuseEval(t, exprOf(hereNode(), not(0)), nil, n)
		refuseEval(t, exprOf(named("a")), env("a", n), 0)
		refuseEval(t, exprOf(named("a"), not(0)), env("a", n), 0)
		for _, op := range pairOps() {
			for _, other := range []int{0, 1, -1, n, -n, 9999} {
				refuseEval(t, twoNames(op), env("a", n, "b", other), 0)
				refuseEval(t, twoNames(op), env("a", other, "b", n), 0)
				refuseEval(t, exprOf(hereNode(), named("b"), pair(op, 0, 1)), env("b", other), n)
				refuseEval(t, exprOf(named("b"), hereNode(), pair(op, 0, 1)), env("b", other), n)
			}
			refuseEval(t, exprOf(hereNode(), pair(op, 0, 0)), nil, n)
		}
		checkEval(t, exprOf(num(3)), env("a", n), n, 3)
	}
	for _, n := range []int{impl.MaxNum, -impl.MaxNum} {
		checkEval(t, exprOf(hereNode()), nil, n, n)
		checkEval(t, exprOf(named("a")), env("a", n), 0, n)
		checkEval(t, exprOf(hereNode(), named("a"), pair(impl.ExSame, 0, 1)), env("a", n), n, 1)
	}
}

func TestEvalExprDividedByZero(t *testing.T) {
	for _, n := range []int{0, 1, -1, 99, 9999, -9999} {
		refuseEval(t, twoNames(impl.ExDiv), env("a", n, "b", 0), 0)
		refuseEval(t, exprOf(hereNode(), num(0), pair(impl.ExDiv, 0, 1)), nil, n)
	}
	none := exprOf(num(0), num(5), pair(impl.ExDiv, 1, 0))
	refuseEval(t, none, nil, 0)
	refuseEval(t, more(none, not(2)), nil, 0)
	for _, op := range pairOps() {
		refuseEval(t, more(none, pair(op, 0, 2)), nil, 0)
		refuseEval(t, more(none, pair(op, 2, 0)), nil, 0)
		refuseEval(t, more(none, pair(op, 1, 2), not(3)), nil, 0)
	}
	// A quotient that is 0, and what is 0 by other ways, too.
	refuseEval(t, exprOf(num(1), num(2), pair(impl.ExDiv, 0, 1), pair(impl.ExDiv, 1, 2)), nil, 0)
	refuseEval(t, exprOf(num(1), not(0), pair(impl.ExDiv, 0, 1)), nil, 0)
	checkEval(t, exprOf(num(0), num(5), pair(impl.ExDiv, 0, 1)), nil, 0, 0)
}

func TestExprRefusesOps(t *testing.T) {
	for _, op := range []int{0, -1, 12, 13, 255, 256 + impl.ExHere, 1<<32 + impl.ExNot, leastInt, greatestInt} {
		for _, n := range []impl.ExNode{
			{Op: op},
			{Op: op, Num: 1},
			{Op: op, Name: "a"},
			{Op: op, Kids: []int{0}},
			{Op: op, Kids: []int{0, 0}},
		} {
			refuseExpr(t, more(exprOf(num(1)), n))
			refuseExpr(t, more(exprOf(num(1)), n, num(1)))
		}
		refuseExpr(t, exprOf(impl.ExNode{Op: op}))
	}
}

// rightNodes has a right node of each Op, to stand behind two others.
func rightNodes() []impl.ExNode {
	nodes := []impl.ExNode{num(7), num(0), named("n"), hereNode(), not(1)}
	for _, op := range pairOps() {
		nodes = append(nodes, pair(op, 0, 1))
	}
	return nodes
}

// refuseNode holds a wrong node against every place: as the whole, and where the whole comes to it, or not.
func refuseNode(t *testing.T, n impl.ExNode) {
	t.Helper()
	refuseExpr(t, exprOf(num(1), num(2), n))
	refuseExpr(t, exprOf(num(1), num(2), n, not(2)))
	refuseExpr(t, exprOf(num(1), num(2), n, num(3)))
}

func TestExprRefusesWhatIsNotANodesOwn(t *testing.T) {
	for _, plain := range rightNodes() {
		checkRight(t, exprOf(num(1), num(2), plain))
		for _, n := range []int{1, -1, 99, leastInt, greatestInt} {
			if plain.Op != impl.ExNum {
				wrong := plain
				wrong.Num = n
				refuseNode(t, wrong)
			}
		}
		for _, name := range []string{"a", "n", "abcde", "A", " ", "\x00"} {
			if plain.Op != impl.ExVar {
				wrong := plain
				wrong.Name = name
				refuseNode(t, wrong)
			}
		}
		for _, kids := range [][]int{nil, {}, {0}, {1}, {0, 1}, {0, 0}, {0, 1, 0}, {1, 1, 1, 1}, make([]int, 256), make([]int, 258)} {
			if len(kids) != len(plain.Kids) {
				wrong := plain
				wrong.Kids = kids
				refuseNode(t, wrong)
			}
		}
	}
}

func TestExprTakesEmptyKids(t *testing.T) {
	for _, plain := range rightNodes() {
		if len(plain.Kids) == 0 {
			plain.Kids = []int{}
			checkAsSlow(t, exprOf(plain), env("n", 4), 3)
			checkRight(t, exprOf(plain))
			plain.Kids = make([]int, 0, 4)
			checkRight(t, exprOf(plain))
		}
	}
}

func TestExprRefusesKidsNotAhead(t *testing.T) {
	for _, kid := range []int{2, 3, 4, 20, -1, -2, 1 << 32, leastInt, greatestInt} {
		refuseNode(t, not(kid))
		for _, op := range pairOps() {
			refuseNode(t, pair(op, kid, 0))
			refuseNode(t, pair(op, 0, kid))
			refuseNode(t, pair(op, kid, kid))
		}
	}
	for kid := range 2 {
		checkRight(t, exprOf(num(1), num(2), not(kid)))
	}
	refuseExpr(t, exprOf(not(0)))
	refuseExpr(t, exprOf(pair(impl.ExAdd, 0, 0)))
	refuseExpr(t, exprOf(not(1), num(1)))
	refuseExpr(t, exprOf(not(1), not(0)))
	refuseExpr(t, exprOf(num(1), not(2), not(1)))
}

func TestExprNames(t *testing.T) {
	for length := 1; length <= 4; length++ {
		for _, letter := range []string{"a", "z"} {
			name := strings.Repeat(letter, length)
			checkAsSlow(t, exprOf(named(name)), env(name, 8), 0)
			checkEval(t, exprOf(named(name)), env(name, 8), 0, 8)
		}
	}
	for _, name := range []string{"", "abcde", "A", "aB", "1", "a1", "a ", " ", "@", "é", "\x00", "\xff", strings.Repeat("a", 260)} {
		refuseNode(t, named(name))
		refuseExpr(t, exprOf(named(name)))
		refuseEval(t, exprOf(named(name)), env(name, 1), 0)
	}
}

// A node that is wrong is found wherever it stands.
func TestExprRefusesAtEachPlace(t *testing.T) {
	for place := range 20 {
		for _, wrong := range []impl.ExNode{{}, num(100), num(-1), named(""), not(place), pair(impl.ExAdd, -1, place-1), {Op: impl.ExHere, Num: 1}} {
			e := chain(20)
			e.Nodes[place] = wrong
			refuseExpr(t, e)
		}
	}
}

func TestExprOfManyNodes(t *testing.T) {
	pool := []impl.ExNode{
		num(0), num(3), num(100), named("a"), named("b"), named(""), hereNode(),
		not(0), not(1), pair(impl.ExAdd, 0, 0), pair(impl.ExSub, 0, 1), pair(impl.ExDiv, 1, 0), pair(impl.ExAnd, 1, 1),
		pair(impl.ExLess, 1, 2), {}, {Op: impl.ExHere, Kids: []int{0}},
	}
	right := 0
	var grow func(nodes []impl.ExNode)
	grow = func(nodes []impl.ExNode) {
		e := exprOf(nodes...)
		checkAsSlow(t, e, env("a", -2, "c", 4), 9)
		right += oneOf(impl.ExprOk(e))
		if len(nodes) == 4 {
			return
		}
		for _, n := range pool {
			grow(append(slices.Clone(nodes), n))
		}
	}
	grow(nil)
	if want := 5 + 5*7 + 5*7*11 + 5*7*11*12; right != want {
		t.Errorf("%d of the expressions are right; want %d", right, want)
	}
}

func TestExprOfManySeeds(t *testing.T) {
	reckoned := 0
	someExprs(400, func(e impl.Expr) {
		for here, list := range [][]impl.Var{env("a", 6, "ab", -5, "n", 40, "zzzz", 0), env("a", 99, "n", -1), nil} {
			checkAsSlow(t, e, list, 7*here-5)
			_, ok := impl.EvalExpr(e, list, 7*here-5)
			reckoned += oneOf(ok)
		}
	})
	if reckoned < 4000 {
		t.Errorf("only %d of the expressions have a number", reckoned)
	}
}

// What the whole does not come to is not reckoned and not shown; it must be right all the same, and its names are told.
func TestExprNodesTheWholeDoesNotComeTo(t *testing.T) {
	e := more(beyondAbove(), num(0), pair(impl.ExDiv, 5, 6), named("zz"), named("b"), hereNode(), named("n"), num(2), pair(impl.ExMul, 11, 12))
	checkRight(t, e)
	checkEval(t, e, env("n", 21), greatestInt, 42)
	checkShow(t, e, "(n * 2)")
	checkFree(t, e, "b", "n", "zz")
	refuseEval(t, e, env("b", 1, "zz", 2), 0)

	// The whole is the last node, not the one that comes to most.
	checkEval(t, more(greatest(), num(4)), nil, 0, 4)
	checkShow(t, more(greatest(), num(4)), "4")
	checkShow(t, more(doubled(impl.ExAdd, 18), num(5), not(18)), "!5")
}

func TestFreeOf(t *testing.T) {
	checkFree(t, exprOf(named("b"), named("a"), pair(impl.ExAdd, 0, 1)), "a", "b")
	checkFree(t, exprOf(named("a"), named("a"), pair(impl.ExSame, 0, 1)), "a")
	checkFree(t, exprOf(named("b"), named("ab"), named("a"), named("b"), named("zzzz"), named("a"), num(1)), "a", "ab", "b", "zzzz")
	checkFree(t, exprOf(named("n"), pair(impl.ExMul, 0, 0), pair(impl.ExMul, 1, 0)), "n")
	checkFree(t, exprOf(num(1), hereNode(), pair(impl.ExLess, 0, 1)))
}

func TestShowExprSigns(t *testing.T) {
	for op, want := range map[int]string{
		impl.ExAdd:  "(a + b)",
		impl.ExSub:  "(a - b)",
		impl.ExMul:  "(a * b)",
		impl.ExDiv:  "(a / b)",
		impl.ExLess: "(a < b)",
		impl.ExSame: "(a = b)",
		impl.ExAnd:  "(a & b)",
	} {
		checkShow(t, twoNames(op), want)
		checkShow(t, more(twoNames(op), not(2)), "!"+want)
		checkShow(t, more(twoNames(op), pair(op, 2, 0)), "("+want+want[2:5]+"a)")
		checkShow(t, more(twoNames(op), pair(op, 0, 2)), "(a"+want[2:5]+want+")")
	}
	checkShow(t, exprOf(named("abcd"), not(0)), "!abcd")
	checkShow(t, exprOf(hereNode(), not(0), not(1)), "!!@")
	// What can not be reckoned can be shown.
	checkShow(t, exprOf(num(1), num(0), pair(impl.ExDiv, 0, 1)), "(1 / 0)")
	checkShow(t, beyondAbove(), "((99 * (99 + 2)) + 1)")
}

func TestShowExprLimit(t *testing.T) {
	e := just200()
	shown := impl.ShowExpr(e)
	if nodes := strings.Count(shown, "1") + strings.Count(shown, "!") + strings.Count(shown, "("); nodes != 200 || shown != slowShow(e) {
		t.Errorf("ShowExpr(%v) = %q, of %d nodes", e, shown, nodes)
	}
	// One more, by each way of having one.
	last := len(e.Nodes) - 1
	checkShow(t, more(e, not(last)), "")
	checkShow(t, more(doubled(impl.ExAdd, 7), not(2), not(7), pair(impl.ExSub, 5, 8), pair(impl.ExMul, 6, 9)), "")
	checkShow(t, more(e, num(1), pair(impl.ExAdd, last, last+1)), "")
	// A node that the whole does not come to is none of them.
	checkShow(t, more(doubled(impl.ExAdd, 7), not(2), hereNode(), named("n"), not(7), pair(impl.ExSub, 5, 7), pair(impl.ExMul, 6, 11)), shown)
	checkShow(t, doubled(impl.ExAdd, 8), "")
	checkShow(t, doubled(impl.ExAdd, 20), "")
	if shown := impl.ShowExpr(doubled(impl.ExAdd, 7)); strings.Count(shown, "1") != 64 {
		t.Errorf("127 nodes are shown as %q", shown)
	}
	// What is too much to be shown is right, and reckoned.
	checkRight(t, more(e, not(last)))
	checkEval(t, doubled(impl.ExAdd, 8), nil, 0, 128)
}

// roomyExpr is the expression in memory of its own, with spare room behind its nodes and Kids; all of that room is filled.
func roomyExpr(e impl.Expr) (impl.Expr, []impl.ExNode) {
	all := make([]impl.ExNode, len(e.Nodes)+3)
	for i := range all {
		all[i] = impl.ExNode{Op: -7, Num: i, Name: "spare", Kids: []int{8, 9}}
	}
	for i, n := range e.Nodes {
		kids := append(slices.Clone(n.Kids), 70, 71, 72)
		all[i] = impl.ExNode{Op: n.Op, Num: n.Num, Name: strings.Clone(n.Name), Kids: kids[:len(n.Kids)]}
	}
	return impl.Expr{Nodes: all[:len(e.Nodes)]}, all
}

// pictureOf tells all that stands in the nodes, and in the spare room of their Kids.
func pictureOf(nodes []impl.ExNode) string {
	picture := ""
	for _, n := range nodes {
		picture += fmt.Sprintf("%d %d %q %d %v;", n.Op, n.Num, n.Name, len(n.Kids), n.Kids[:cap(n.Kids)])
	}
	return picture
}

func TestExprAnswersNewMemory(t *testing.T) {
	exprs := []impl.Expr{
		{}, exprOf(named("n")), exprOf(named("n"), not(0)), exprOf(named("zz"), named("a"), named("n"), named("a")),
		twoNames(impl.ExMul), greatest(), beyondBelow(), just200(), chain(20), chain(21),
		exprOf(named("abcde")), exprOf(not(0)), exprOf(num(100)),
	}
	someExprs(3, func(e impl.Expr) { exprs = append(exprs, e) })
	for _, plain := range exprs {
		e, all := roomyExpr(plain)
		list, listAll := roomy(env("a", 1, "ab", 2, "n", 3))
		before, listBefore := pictureOf(all), slices.Clone(listAll)
		impl.ExprOk(e)
		impl.EvalExpr(e, list, 5)
		text, free, again := impl.ShowExpr(e), impl.FreeOf(e), impl.FreeOf(e)
		for _, n := range all {
			if shares(text, n.Name) {
				t.Fatalf("ShowExpr(%v) shares memory with its argument", plain)
			}
			for _, name := range free {
				if shares(name, n.Name) {
					t.Fatalf("FreeOf(%v) shares memory with its argument", plain)
				}
			}
		}
		if cap(free) > 0 && cap(again) > 0 && unsafe.SliceData(free) == unsafe.SliceData(again) {
			t.Fatalf("FreeOf(%v) answers the same memory again", plain)
		}
		clear(free[:cap(free)])
		if !slices.Equal(impl.FreeOf(e), again) {
			t.Fatalf("FreeOf(%v) hangs on what was done with its answer", plain)
		}
		if pictureOf(all) != before || !slices.Equal(listAll, listBefore) {
			t.Fatalf("%v: an argument is changed", plain)
		}
	}
}

func TestExprAnswersTheSameAgain(t *testing.T) {
	for range 20 {
		refuseEval(t, beyondAbove(), nil, 0)
		checkEval(t, greatest(), nil, 0, 9999)
		refuseExpr(t, chain(21))
		checkFree(t, exprOf(named("c"), named("b"), named("a"), named("b")), "a", "b", "c")
		checkShow(t, twoNames(impl.ExAdd), "(a + b)")
	}
}
