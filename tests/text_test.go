package tests

import (
	"math"
	"testing"

	"loop.example/g00689/impl"
)

// bodySet is a set of one procedure p, whose Body is the last node.
func bodySet(nodes ...impl.Node) impl.Set {
	return impl.Set{L: nodes, Procs: []impl.Proc{{Name: "p", Body: len(nodes) - 1}}}
}

// returnSet has a procedure p that returns the expression of these nodes.
func returnSet(nodes ...impl.Node) impl.Set {
	n := len(nodes)
	return bodySet(append(append([]impl.Node{}, nodes...), kidsNode(impl.NkReturn, n-1), kidsNode(impl.NkBlock, n))...)
}

func mustParse(t *testing.T, s string) impl.Set {
	t.Helper()
	p, k := impl.Parse(s)
	if k != -1 {
		t.Fatalf("Parse(%.80q) is refused at %d", s, k)
	}
	return p
}

// stmtsSet is the set of a procedure p with these statements.
func stmtsSet(t *testing.T, stmts string) impl.Set {
	t.Helper()
	return mustParse(t, "proc p() { "+stmts+" }")
}

func wantSetText(t *testing.T, p impl.Set, want string) {
	t.Helper()
	if got := impl.SetText(p); got != want {
		t.Errorf("SetText of %.200v is %.200q, not %.200q", p, got, want)
	}
}

func wantExprText(t *testing.T, p impl.Set, k int, want string) {
	t.Helper()
	if got := impl.ExprText(p, k); got != want {
		t.Errorf("ExprText of %.200v and %d is %.200q, not %.200q", p, k, got, want)
	}
}

// wantAsText asks for the text of an expression, alone and in each statement that may hold it.
func wantAsText(t *testing.T, want string, nodes ...impl.Node) {
	t.Helper()
	n := len(nodes)
	wantExprText(t, returnSet(nodes...), n-1, want)
	wantSetText(t, returnSet(nodes...), "proc p() { return "+want+"; }\n")
	with := func(more ...impl.Node) impl.Set { return bodySet(append(append([]impl.Node{}, nodes...), more...)...) }
	block := kidsNode(impl.NkBlock)
	wantSetText(t, with(nodeOf(impl.NkSet, "v", 0, n-1), kidsNode(impl.NkBlock, n)), "proc p() { v = "+want+"; }\n")
	wantSetText(t, with(nodeOf(impl.NkRead, "v", 3, n-1), kidsNode(impl.NkBlock, n)), "proc p() { v = read D["+want+"]; }\n")
	wantSetText(t, with(numNode(5), nodeOf(impl.NkWrite, "", 2, n-1, n), kidsNode(impl.NkBlock, n+1)), "proc p() { write C["+want+"] = 5; }\n")
	wantSetText(t, with(numNode(5), nodeOf(impl.NkWrite, "", 2, n, n-1), kidsNode(impl.NkBlock, n+1)), "proc p() { write C[5] = "+want+"; }\n")
	wantSetText(t, with(block, kidsNode(impl.NkIf, n-1, n), kidsNode(impl.NkBlock, n+1)), "proc p() { if ("+want+") { } }\n")
}

func TestTextOfNumbers(t *testing.T) {
	for _, x := range []struct {
		n    int
		want string
	}{{0, "0"}, {7, "7"}, {10, "10"}, {999999999, "999999999"}, {1000000000, "1000000000"}, {-1, "-1"}, {-250, "-250"},
		{math.MaxInt, "9223372036854775807"}, {math.MinInt, "-9223372036854775808"}} {
		wantAsText(t, x.want, numNode(x.n))
		wantAsText(t, "(-"+x.want+")", numNode(x.n), kidsNode(impl.NkNeg, 0))
		wantAsText(t, "("+x.want+" - "+x.want+")", numNode(x.n), numNode(x.n), kidsNode(impl.NkSub, 0, 1))
	}
}

func TestTextOfVariables(t *testing.T) {
	for _, s := range []string{"x", "abcdefghijklmnopqrst", "a_1", "$0", "", "read", "a b", "\x00\xff\n", "Ü"} {
		wantAsText(t, s, varNode(s))
		wantAsText(t, "(-"+s+")", varNode(s), kidsNode(impl.NkNeg, 0))
		wantAsText(t, "("+s+" < y)", varNode(s), varNode("y"), kidsNode(impl.NkLess, 0, 1))
	}
}

func TestTextOfTwoKids(t *testing.T) {
	a, b, c := varNode("a"), varNode("b"), varNode("c")
	for kind, sign := range betweenTexts {
		wantAsText(t, "(a "+sign+" b)", a, b, kidsNode(kind, 0, 1))
		wantAsText(t, "(b "+sign+" a)", a, b, kidsNode(kind, 1, 0))
		wantAsText(t, "((a "+sign+" b) "+sign+" c)", a, b, kidsNode(kind, 0, 1), c, kidsNode(kind, 2, 3))
		wantAsText(t, "(a "+sign+" (b "+sign+" c))", a, b, c, kidsNode(kind, 1, 2), kidsNode(kind, 0, 3))
		wantAsText(t, "(-(a "+sign+" b))", a, b, kidsNode(kind, 0, 1), kidsNode(impl.NkNeg, 2))
		wantAsText(t, "((-a) "+sign+" (-(-b)))", a, kidsNode(impl.NkNeg, 0), b, kidsNode(impl.NkNeg, 2), kidsNode(impl.NkNeg, 3), kidsNode(kind, 1, 4))
	}
}

// Of what a node has, only what its Kind's text names is told.
func TestTextLeavesOutTheRest(t *testing.T) {
	wantAsText(t, "3", nodeOf(impl.NkNum, "odd", 3))
	wantAsText(t, "x", nodeOf(impl.NkVar, "x", 99))
	wantAsText(t, "(-x)", varNode("x"), nodeOf(impl.NkNeg, "odd", 99, 0))
	wantAsText(t, "(x + x)", varNode("x"), varNode("x"), nodeOf(impl.NkAdd, "odd", 99, 0, 1))
	odd := bodySet(numNode(1), nodeOf(impl.NkSet, "x", 99, 0), numNode(2), numNode(3), nodeOf(impl.NkWrite, "odd", 0, 2, 3),
		numNode(4), nodeOf(impl.NkBlock, "odd", 99), nodeOf(impl.NkIf, "odd", 99, 5, 6), nodeOf(impl.NkAbort, "odd", 99), numNode(5), nodeOf(impl.NkReturn, "odd", 99, 9),
		nodeOf(impl.NkBlock, "odd", 99, 1, 4, 7, 8, 10))
	wantSetText(t, odd, "proc p() { x = 1; write A[2] = 3; if (4) { } abort; return 5; }\n")
	if impl.SourceOk(odd) || !impl.TargetOk(odd) {
		t.Error("what its text does not name does not come back from it, and may be run")
	}
}

func TestTextOfStatements(t *testing.T) {
	for _, x := range []struct{ src, want string }{
		{"", ""},
		{"x=7;", "x = 7; "},
		{"x=a+1;", "x = (a + 1); "},
		{"x=read A[1];", "x = read A[1]; "},
		{"y_2=read D[-x];", "y_2 = read D[(-x)]; "},
		{"write B[1]=2;", "write B[1] = 2; "},
		{"write C[a*2]=-b;", "write C[(a * 2)] = (-b); "},
		{"if(1){}", "if (1) { } "},
		{"if(a<b){abort;}", "if ((a < b)) { abort; } "},
		{"if(1){}else{}", "if (1) { } else { } "},
		{"if(1){}else{abort;}", "if (1) { } else { abort; } "},
		{"if(1){abort;x=2;}else{return 3;y=4;}", "if (1) { abort; x = 2; } else { return 3; y = 4; } "},
		{"for i in 3{}", "for i in 3 { } "},
		{"for i in 007{abort;}", "for i in 7 { abort; } "},
		{"for i in 1{for j in 2{x=i;y=j;}}", "for i in 1 { for j in 2 { x = i; y = j; } } "},
		{"abort;", "abort; "},
		{"return 0;", "return 0; "},
		{"return((a))==(b%2);", "return (a == (b % 2)); "},
		{"abort;abort;abort;", "abort; abort; abort; "},
		{"x=1;if(x){if(y){}else{}}z=2;", "x = 1; if (x) { if (y) { } else { } } z = 2; "},
		{"if(x){if(y){}}else{}", "if (x) { if (y) { } } else { } "},
	} {
		p := stmtsSet(t, x.src)
		wantSetText(t, p, "proc p() { "+x.want+"}\n")
		if !impl.SameSet(mustParse(t, impl.SetText(p)), p) {
			t.Errorf("%q does not come back", x.src)
		}
	}
}

// The number of a loop is told as it is, whether a text can hold it or not.
func TestTextOfRounds(t *testing.T) {
	for n, want := range map[int]string{0: "0", 4: "4", -3: "-3", 1234567890: "1234567890", math.MaxInt: "9223372036854775807", math.MinInt: "-9223372036854775808"} {
		wantSetText(t, bodySet(kidsNode(impl.NkBlock), nodeOf(impl.NkFor, "i", n, 0), kidsNode(impl.NkBlock, 1)), "proc p() { for i in "+want+" { } }\n")
	}
}

func TestTextOfTables(t *testing.T) {
	for n, want := range map[int]string{0: "A", 1: "B", 2: "C", 3: "D", 4: "#", 5: "", -1: "", -2: "", math.MaxInt: "", math.MinInt: ""} {
		wantSetText(t, bodySet(numNode(1), nodeOf(impl.NkRead, "x", n, 0), kidsNode(impl.NkBlock, 1)), "proc p() { x = read "+want+"[1]; }\n")
		wantSetText(t, bodySet(numNode(1), numNode(2), nodeOf(impl.NkWrite, "", n, 0, 1), kidsNode(impl.NkBlock, 2)), "proc p() { write "+want+"[1] = 2; }\n")
	}
}

func TestTextOfNamesAsTheyAre(t *testing.T) {
	for _, s := range []string{"", "$12", "for", "X", " ", "\n", "\xff\x00", "a;b"} {
		wantSetText(t, bodySet(numNode(1), nodeOf(impl.NkSet, s, 0, 0), kidsNode(impl.NkBlock, 1)), "proc p() { "+s+" = 1; }\n")
		wantSetText(t, bodySet(numNode(1), nodeOf(impl.NkRead, s, 0, 0), kidsNode(impl.NkBlock, 1)), "proc p() { "+s+" = read A[1]; }\n")
		wantSetText(t, bodySet(kidsNode(impl.NkBlock), nodeOf(impl.NkFor, s, 2, 0), kidsNode(impl.NkBlock, 1)), "proc p() { for "+s+" in 2 { } }\n")
		wantSetText(t, impl.Set{L: []impl.Node{kidsNode(impl.NkBlock)}, Procs: []impl.Proc{{Name: s, Params: []string{s, s}}}}, "proc "+s+"("+s+", "+s+") { }\n")
	}
}

func TestTextOfProcedures(t *testing.T) {
	wantSetText(t, impl.Set{}, "")
	wantSetText(t, impl.Set{L: []impl.Node{}, Procs: []impl.Proc{}}, "")
	for _, x := range []struct{ src, want string }{
		{"proc p(){}", "proc p() { }\n"},
		{"proc q(a){}", "proc q(a) { }\n"},
		{"proc q(a,b){abort;}", "proc q(a, b) { abort; }\n"},
		{"proc q_1(c,b,a){x=a;return b;}", "proc q_1(c, b, a) { x = a; return b; }\n"},
		{"proc q(a,b,c,d,e){}", "proc q(a, b, c, d, e) { }\n"},
		{"proc p(a,a){}proc p(){}", "proc p(a, a) { }\nproc p() { }\n"},
		{"proc a(){abort;}proc b(x){return x;}proc c(){}", "proc a() { abort; }\nproc b(x) { return x; }\nproc c() { }\n"},
	} {
		wantSetText(t, mustParse(t, x.src), x.want)
	}
}

// The order is that of the procedures and of the kids, whichever way the nodes stand.
func TestTextOfNodesInOtherOrders(t *testing.T) {
	p := impl.Set{
		L: []impl.Node{kidsNode(impl.NkAbort), numNode(2), kidsNode(impl.NkBlock), varNode("x"), kidsNode(impl.NkReturn, 3), numNode(1),
			nodeOf(impl.NkWrite, "", 1, 5, 1), kidsNode(impl.NkBlock, 6, 0), kidsNode(impl.NkBlock, 4)},
		Procs: []impl.Proc{{Name: "r", Body: 8}, {Name: "q", Body: 7}, {Name: "p", Body: 2}},
	}
	wantSetText(t, p, "proc r() { return x; }\nproc q() { write B[1] = 2; abort; }\nproc p() { }\n")
	if impl.SourceOk(p) || !impl.TargetOk(p) {
		t.Error("nodes in an order in which they are not complete do not come back, and may be run")
	}
}

func TestExprTextOfEachNode(t *testing.T) {
	p := mustParse(t, "proc p(a) { x = read B[a + 1]; if (x < 2) { write B[a] = -x; } else { abort; } for i in 3 { y = y * i; } return x == y; } proc q() { }")
	want := []string{"a", "1", "(a + 1)", "", "x", "2", "(x < 2)", "a", "x", "(-x)", "", "", "", "", "", "y", "i", "(y * i)", "", "", "", "x", "y", "(x == y)", "", "", ""}
	for k := -2; k < len(p.L)+2; k++ {
		if k < 0 || k >= len(p.L) {
			wantExprText(t, p, k, "")
		} else {
			wantExprText(t, p, k, want[k])
		}
	}
	for _, k := range []int{math.MinInt, -100, 1000, math.MaxInt} {
		wantExprText(t, p, k, "")
	}
	wantExprText(t, impl.Set{}, 0, "")
	wantExprText(t, impl.Set{}, -1, "")
}
