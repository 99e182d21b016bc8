package tests

import (
	"slices"
	"strings"
	"testing"

	"loop.example/g00689/impl"
)

func nodeOf(kind int, s string, n int, kids ...int) impl.Node {
	return impl.Node{Kind: kind, S: s, N: n, Kids: kids}
}

func numNode(n int) impl.Node {
	return nodeOf(impl.NkNum, "", n)
}

func varNode(s string) impl.Node {
	return nodeOf(impl.NkVar, s, 0)
}

func kidsNode(kind int, kids ...int) impl.Node {
	return nodeOf(kind, "", 0, kids...)
}

func plainNode(a, b impl.Node) bool {
	return a.Kind == b.Kind && a.S == b.S && a.N == b.N && slices.Equal(a.Kids, b.Kids)
}

func plainProc(a, b impl.Proc) bool {
	return a.Name == b.Name && a.Body == b.Body && slices.Equal(a.Params, b.Params)
}

// plainSet holds two sets against each other without the program's own SameSet.
func plainSet(a, b impl.Set) bool {
	return slices.EqualFunc(a.L, b.L, plainNode) && slices.EqualFunc(a.Procs, b.Procs, plainProc)
}

func wantSet(t *testing.T, s string, want impl.Set) {
	t.Helper()
	if p, k := impl.Parse(s); k != -1 || !plainSet(p, want) {
		t.Errorf("Parse(%.80q) is %v, %d, not %v, -1", s, p, k, want)
	}
}

// wantStmts asks for the nodes of a procedure p with these statements; its block is the last one.
func wantStmts(t *testing.T, stmts string, want ...impl.Node) {
	t.Helper()
	wantSet(t, "proc p() { "+stmts+" }", impl.Set{L: want, Procs: []impl.Proc{{Name: "p", Body: len(want) - 1}}})
}

// wantExpr asks for the nodes of an expression.
func wantExpr(t *testing.T, expr string, want ...impl.Node) {
	t.Helper()
	n := len(want)
	all := append(slices.Clone(want), kidsNode(impl.NkReturn, n-1), kidsNode(impl.NkBlock, n))
	wantStmts(t, "return "+expr+";", all...)
}

// wantStuck asks for the zero value beside the number of the byte.
func wantStuck(t *testing.T, s string, at int) {
	t.Helper()
	if p, k := impl.Parse(s); k != at || len(p.L) != 0 || len(p.Procs) != 0 {
		t.Errorf("Parse(%.80q) is %v, %d, not the zero value, %d", s, p, k, at)
	}
}

// wantStuckAt takes the place to be told from a mark in the text, which is taken away.
func wantStuckAt(t *testing.T, marked string) {
	t.Helper()
	ahead, behind, found := strings.Cut(marked, "@")
	if !found || strings.Contains(behind, "@") {
		t.Fatalf("not one mark in %q", marked)
	}
	wantStuck(t, ahead+behind, len(ahead))
}

// wantParsed asks for so many nodes.
func wantParsed(t *testing.T, s string, nodes int) {
	t.Helper()
	if p, k := impl.Parse(s); k != -1 || len(p.L) != nodes {
		t.Errorf("Parse(%.80q) is %d nodes, %d, not %d nodes, -1", s, len(p.L), k, nodes)
	}
}

func TestParseSets(t *testing.T) {
	for _, s := range []string{"", " ", "\n\t \n"} {
		wantSet(t, s, impl.Set{})
	}
	block := kidsNode(impl.NkBlock)
	wantSet(t, "proc p(){}", impl.Set{L: []impl.Node{block}, Procs: []impl.Proc{{Name: "p"}}})
	wantSet(t, " proc\nq ( a ) { } ", impl.Set{L: []impl.Node{block}, Procs: []impl.Proc{{Name: "q", Params: []string{"a"}}}})
	wantSet(t, "proc q(b, a, b, q) {}", impl.Set{L: []impl.Node{block}, Procs: []impl.Proc{{Name: "q", Params: []string{"b", "a", "b", "q"}}}})
	wantSet(t, "proc p() { } proc q(x) { abort; } proc p(y, z) { return y; }", impl.Set{
		L: []impl.Node{block, kidsNode(impl.NkAbort), kidsNode(impl.NkBlock, 1), varNode("y"), kidsNode(impl.NkReturn, 3), kidsNode(impl.NkBlock, 4)},
		Procs: []impl.Proc{
			{Name: "p", Body: 0},
			{Name: "q", Params: []string{"x"}, Body: 2},
			{Name: "p", Params: []string{"y", "z"}, Body: 5},
		}})
}

func TestParseManyProcedures(t *testing.T) {
	var want impl.Set
	for k := range 590 {
		want.L = append(want.L, kidsNode(impl.NkBlock))
		want.Procs = append(want.Procs, impl.Proc{Name: "p", Body: k})
	}
	wantSet(t, strings.Repeat("proc p(){}", 590), want)
	var params []string
	for range 1000 {
		params = append(params, "x_1")
	}
	wantSet(t, "proc p("+strings.Join(params, ",")+"){}", impl.Set{L: want.L[:1], Procs: []impl.Proc{{Name: "p", Params: params}}})
}

func TestParseStatements(t *testing.T) {
	wantStmts(t, "x = 7;", numNode(7), nodeOf(impl.NkSet, "x", 0, 0), kidsNode(impl.NkBlock, 1))
	for i, table := range []string{"A", "B", "C", "D"} {
		wantStmts(t, "x = read "+table+"[y];", varNode("y"), nodeOf(impl.NkRead, "x", i, 0), kidsNode(impl.NkBlock, 1))
		wantStmts(t, "write "+table+"[1] = y;", numNode(1), varNode("y"), nodeOf(impl.NkWrite, "", i, 0, 1), kidsNode(impl.NkBlock, 2))
	}
	wantStmts(t, "if (x) { }", varNode("x"), kidsNode(impl.NkBlock), kidsNode(impl.NkIf, 0, 1), kidsNode(impl.NkBlock, 2))
	wantStmts(t, "if (x) { } else { }", varNode("x"), kidsNode(impl.NkBlock), kidsNode(impl.NkBlock), kidsNode(impl.NkIf, 0, 1, 2), kidsNode(impl.NkBlock, 3))
	for _, n := range []struct {
		text string
		n    int
	}{{"0", 0}, {"3", 3}, {"007", 7}, {"999999999", 999999999}} {
		wantStmts(t, "for i in "+n.text+" { }", kidsNode(impl.NkBlock), nodeOf(impl.NkFor, "i", n.n, 0), kidsNode(impl.NkBlock, 1))
	}
	wantStmts(t, "abort;", kidsNode(impl.NkAbort), kidsNode(impl.NkBlock, 0))
	wantStmts(t, "return x;", varNode("x"), kidsNode(impl.NkReturn, 0), kidsNode(impl.NkBlock, 1))
	wantStmts(t, "", kidsNode(impl.NkBlock))
}

func TestParseStatementsInOrder(t *testing.T) {
	wantStmts(t, "abort; x = 1; abort; return 2; abort;",
		kidsNode(impl.NkAbort), numNode(1), nodeOf(impl.NkSet, "x", 0, 1), kidsNode(impl.NkAbort),
		numNode(2), kidsNode(impl.NkReturn, 4), kidsNode(impl.NkAbort), kidsNode(impl.NkBlock, 0, 2, 3, 5, 6))
	wantStmts(t, "if (1) { abort; x = 2; } else { write C[3] = 4; } for i in 5 { y = read D[6]; if (7) { } }",
		numNode(1), kidsNode(impl.NkAbort), numNode(2), nodeOf(impl.NkSet, "x", 0, 2), kidsNode(impl.NkBlock, 1, 3),
		numNode(3), numNode(4), nodeOf(impl.NkWrite, "", 2, 5, 6), kidsNode(impl.NkBlock, 7), kidsNode(impl.NkIf, 0, 4, 8),
		numNode(6), nodeOf(impl.NkRead, "y", 3, 10), numNode(7), kidsNode(impl.NkBlock), kidsNode(impl.NkIf, 12, 13), kidsNode(impl.NkBlock, 11, 14), nodeOf(impl.NkFor, "i", 5, 15),
		kidsNode(impl.NkBlock, 9, 16))
	// An else belongs to the if right ahead of it.
	wantStmts(t, "if (1) { if (2) { } } else { }",
		numNode(1), numNode(2), kidsNode(impl.NkBlock), kidsNode(impl.NkIf, 1, 2), kidsNode(impl.NkBlock, 3), kidsNode(impl.NkBlock), kidsNode(impl.NkIf, 0, 4, 5), kidsNode(impl.NkBlock, 6))
	wantStmts(t, "if (1) { if (2) { } else { } }",
		numNode(1), numNode(2), kidsNode(impl.NkBlock), kidsNode(impl.NkBlock), kidsNode(impl.NkIf, 1, 2, 3), kidsNode(impl.NkBlock, 4), kidsNode(impl.NkIf, 0, 5), kidsNode(impl.NkBlock, 6))
}

func TestParseSingleExpressions(t *testing.T) {
	wantExpr(t, "0", numNode(0))
	wantExpr(t, "999999999", numNode(999999999))
	wantExpr(t, "x_1", varNode("x_1"))
	wantExpr(t, "abcdefghijklmnopqrst", varNode("abcdefghijklmnopqrst"))
	wantExpr(t, "-x", varNode("x"), kidsNode(impl.NkNeg, 0))
	wantExpr(t, "-1", numNode(1), kidsNode(impl.NkNeg, 0))
	wantExpr(t, "- - -1", numNode(1), kidsNode(impl.NkNeg, 0), kidsNode(impl.NkNeg, 1), kidsNode(impl.NkNeg, 2))
	wantExpr(t, "((x))", varNode("x"))
	wantExpr(t, "-(-(x))", varNode("x"), kidsNode(impl.NkNeg, 0), kidsNode(impl.NkNeg, 1))
	for sign, kind := range map[string]int{"+": impl.NkAdd, "-": impl.NkSub, "*": impl.NkMul, "/": impl.NkDiv, "%": impl.NkRest, "<": impl.NkLess, "==": impl.NkSame} {
		wantExpr(t, "x "+sign+" 2", varNode("x"), numNode(2), kidsNode(kind, 0, 1))
		wantExpr(t, "x"+sign+"-2", varNode("x"), numNode(2), kidsNode(impl.NkNeg, 1), kidsNode(kind, 0, 2))
		wantExpr(t, "-x"+sign+"2", varNode("x"), kidsNode(impl.NkNeg, 0), numNode(2), kidsNode(kind, 1, 2))
		wantExpr(t, "-(x"+sign+"2)", varNode("x"), numNode(2), kidsNode(kind, 0, 1), kidsNode(impl.NkNeg, 2))
	}
}

func TestParseGoesOnFromTheLeft(t *testing.T) {
	a, b, c, d := varNode("a"), varNode("b"), varNode("c"), varNode("d")
	wantExpr(t, "a + b - c + d", a, b, kidsNode(impl.NkAdd, 0, 1), c, kidsNode(impl.NkSub, 2, 3), d, kidsNode(impl.NkAdd, 4, 5))
	wantExpr(t, "a - b - c", a, b, kidsNode(impl.NkSub, 0, 1), c, kidsNode(impl.NkSub, 2, 3))
	wantExpr(t, "a * b / c % d", a, b, kidsNode(impl.NkMul, 0, 1), c, kidsNode(impl.NkDiv, 2, 3), d, kidsNode(impl.NkRest, 4, 5))
	wantExpr(t, "a / b / c", a, b, kidsNode(impl.NkDiv, 0, 1), c, kidsNode(impl.NkDiv, 2, 3))
	wantExpr(t, "a % b * c", a, b, kidsNode(impl.NkRest, 0, 1), c, kidsNode(impl.NkMul, 2, 3))
	wantExpr(t, "a + b * c - d", a, b, c, kidsNode(impl.NkMul, 1, 2), kidsNode(impl.NkAdd, 0, 3), d, kidsNode(impl.NkSub, 4, 5))
	wantExpr(t, "a * b + c % d", a, b, kidsNode(impl.NkMul, 0, 1), c, d, kidsNode(impl.NkRest, 3, 4), kidsNode(impl.NkAdd, 2, 5))
	wantExpr(t, "a + b < c * d", a, b, kidsNode(impl.NkAdd, 0, 1), c, d, kidsNode(impl.NkMul, 3, 4), kidsNode(impl.NkLess, 2, 5))
	wantExpr(t, "a * b == c - d", a, b, kidsNode(impl.NkMul, 0, 1), c, d, kidsNode(impl.NkSub, 3, 4), kidsNode(impl.NkSame, 2, 5))
	wantExpr(t, "a - - b * - c", a, b, kidsNode(impl.NkNeg, 1), c, kidsNode(impl.NkNeg, 3), kidsNode(impl.NkMul, 2, 4), kidsNode(impl.NkSub, 0, 5))
}

func TestParseBrackets(t *testing.T) {
	a, b, c, d := varNode("a"), varNode("b"), varNode("c"), varNode("d")
	wantExpr(t, "a - (b - c)", a, b, c, kidsNode(impl.NkSub, 1, 2), kidsNode(impl.NkSub, 0, 3))
	wantExpr(t, "a / (b * c)", a, b, c, kidsNode(impl.NkMul, 1, 2), kidsNode(impl.NkDiv, 0, 3))
	wantExpr(t, "(a + b) * c", a, b, kidsNode(impl.NkAdd, 0, 1), c, kidsNode(impl.NkMul, 2, 3))
	wantExpr(t, "(a < b) < c", a, b, kidsNode(impl.NkLess, 0, 1), c, kidsNode(impl.NkLess, 2, 3))
	wantExpr(t, "a == (b == c)", a, b, c, kidsNode(impl.NkSame, 1, 2), kidsNode(impl.NkSame, 0, 3))
	wantExpr(t, "(a < b) == (c < d)", a, b, kidsNode(impl.NkLess, 0, 1), c, d, kidsNode(impl.NkLess, 3, 4), kidsNode(impl.NkSame, 2, 5))
	wantExpr(t, "(((a) + ((b))))", a, b, kidsNode(impl.NkAdd, 0, 1))
	wantExpr(t, "-(a == b) + c", a, b, kidsNode(impl.NkSame, 0, 1), kidsNode(impl.NkNeg, 2), c, kidsNode(impl.NkAdd, 3, 4))
}

func TestParseExpressionsInStatements(t *testing.T) {
	less := []impl.Node{varNode("a"), numNode(1), kidsNode(impl.NkLess, 0, 1)}
	with := func(more ...impl.Node) []impl.Node { return append(slices.Clone(less), more...) }
	wantStmts(t, "x = a < 1;", with(nodeOf(impl.NkSet, "x", 0, 2), kidsNode(impl.NkBlock, 3))...)
	wantStmts(t, "x = read A[a < 1];", with(nodeOf(impl.NkRead, "x", 0, 2), kidsNode(impl.NkBlock, 3))...)
	wantStmts(t, "if (a < 1) { }", with(kidsNode(impl.NkBlock), kidsNode(impl.NkIf, 2, 3), kidsNode(impl.NkBlock, 4))...)
	wantStmts(t, "write A[a < 1] = b == 2;", with(varNode("b"), numNode(2), kidsNode(impl.NkSame, 3, 4), nodeOf(impl.NkWrite, "", 0, 2, 5), kidsNode(impl.NkBlock, 6))...)
	wantExpr(t, "a < 1", less...)
}
