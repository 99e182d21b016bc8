package tests

import (
	"math"
	"slices"
	"strconv"
	"strings"
	"testing"

	"loop.example/g00689/impl"
)

// accessText tells all that an access has but its Node, so that nothing in it goes unseen.
func accessText(x impl.Access) string {
	text, key := "read ", "?"
	if x.Write {
		text = "write "
	}
	if x.Const || x.R != 0 {
		key = strconv.Itoa(x.R)
	}
	if !x.Const && x.R != 0 {
		key = "?" + key
	}
	text += impl.TableText(x.T) + "[" + key + "]"
	if x.Same {
		text += " same"
	}
	for _, r := range x.Rows {
		text += " " + strconv.Itoa(r)
	}
	return text
}

// wantAccesses holds what is told of procedure k against these texts, and asks whether each is told of the node that it is.
func wantAccesses(t *testing.T, p impl.Set, k int, want ...string) {
	t.Helper()
	if !impl.TargetOk(p) {
		t.Fatalf("not to be run: %s", impl.SetText(p))
	}
	var got []string
	last := -1
	for _, x := range impl.Accesses(p, k) {
		got = append(got, accessText(x))
		if x.Node <= last || x.Node >= len(p.L) {
			t.Errorf("%s\nnode %d behind %d", impl.SetText(p), x.Node, last)
			continue
		}
		last = x.Node
		n := p.L[x.Node]
		if n.Kind != impl.NkRead && n.Kind != impl.NkWrite || x.Write != (n.Kind == impl.NkWrite) || x.T != n.N {
			t.Errorf("%s\nan access %s of %v", impl.SetText(p), accessText(x), n)
		}
	}
	if !slices.Equal(got, want) {
		t.Errorf("%s\nprocedure %d has %q, not %q", impl.SetText(p), k, got, want)
	}
}

// conflictsOf is the set of a text in which D stands for the table of conflicts where it is written.
func conflictsOf(t *testing.T, s string) impl.Set {
	t.Helper()
	p := mustParse(t, s)
	for i, x := range p.L {
		if x.Kind == impl.NkWrite && x.N == 3 {
			p.L[i].N = 4
		}
	}
	return p
}

// told is what there is to be known of a procedure p(a) with these statements.
type told struct {
	stmts string
	want  []string
}

func wantTold(t *testing.T, all ...told) {
	t.Helper()
	for _, x := range all {
		wantAccesses(t, conflictsOf(t, "proc p(a) { "+x.stmts+" }"), 0, x.want...)
	}
}

func TestAccessesAreReadsAndWrites(t *testing.T) {
	wantTold(t,
		told{"", nil},
		told{"x = 1; if (x) { abort; } for i in 2 { y = x; } return y;", nil},
		told{"x = read A[1];", []string{"read A[1]"}},
		told{"write A[1] = 2;", []string{"write A[1]"}},
		told{"x = read A[1]; y = read B[2]; z = read C[3]; d = read D[4];", []string{"read A[1]", "read B[2]", "read C[3]", "read D[4]"}},
		told{"write A[1] = 9; write B[2] = 9; write C[3] = 9; write D[a] = 9;", []string{"write A[1]", "write B[2]", "write C[3]", "write #[?]"}},
		told{"x = read A[1]; write A[1] = x; x = read A[1]; write A[1] = x;", []string{"read A[1]", "write A[1]", "read A[1]", "write A[1]"}},
		told{"return 1; x = read A[1]; abort; write A[1] = x;", []string{"read A[1]", "write A[1]"}},
		told{"x = read A[1]; if (x) { write A[2] = 1; } else { x = read A[3]; if (x) { } else { write A[4] = 1; } } write A[5] = 1;",
			[]string{"read A[1]", "write A[2]", "read A[3]", "write A[4]", "write A[5]"}},
		told{"for i in 2 { x = read A[1]; for j in 3 { if (x) { for k in 4 { write A[2] = x; } } } write A[3] = x; } x = read A[4];",
			[]string{"read A[1]", "write A[2]", "write A[3]", "read A[4]"}},
		told{"for i in 1 { for j in 1 { for k in 1 { } } if (a) { } else { } } x = read B[0];", []string{"read B[0]"}},
	)
}

func TestAccessesAreOfTheProcedureAlone(t *testing.T) {
	p := mustParse(t, "proc p() { x = read A[0]; } proc q() { } proc r() { write B[1] = 1; if (1) { x = read C[2]; } } proc s() { y = 3; z = read D[y]; }")
	wantAccesses(t, p, 0, "read A[0]")
	wantAccesses(t, p, 1)
	wantAccesses(t, p, 2, "write B[1]", "read C[2]")
	wantAccesses(t, p, 3, "read D[3]")
	for k, want := range [][]int{{1}, nil, {6, 9}, {16}} {
		var got []int
		for _, x := range impl.Accesses(p, k) {
			got = append(got, x.Node)
		}
		if !slices.Equal(got, want) {
			t.Errorf("the nodes of %d are %v", k, got)
		}
	}
	// Procedures of one name, and Bodies in another order than the procedures.
	p.Procs[0], p.Procs[2] = p.Procs[2], p.Procs[0]
	p.Procs[0].Name, p.Procs[1].Name = "s", "s"
	wantAccesses(t, p, 0, "write B[1]", "read C[2]")
	wantAccesses(t, p, 1)
	wantAccesses(t, p, 2, "read A[0]")
}

// By Node, in whatever order the statements stand; what is ahead and what is behind goes by the statements.
func TestAccessesByNode(t *testing.T) {
	nodes := []impl.Node{
		numNode(5), nodeOf(impl.NkSet, "v", 0, 0), varNode("v"), nodeOf(impl.NkRead, "x", 1, 2), varNode("v"), varNode("x"), nodeOf(impl.NkWrite, "", 1, 4, 5),
	}
	with := func(kids ...int) impl.Set {
		return bodySet(append(slices.Clone(nodes), kidsNode(impl.NkBlock, kids...))...)
	}
	wantAccesses(t, with(1, 3, 6), 0, "read B[5] same", "write B[5]")
	wantAccesses(t, with(6, 3, 1), 0, "read B[?]", "write B[?]")
	wantAccesses(t, with(6, 1, 3), 0, "read B[5]", "write B[?]")
	wantAccesses(t, with(3, 6, 1), 0, "read B[?] same", "write B[?]")
	wantAccesses(t, with(3, 1, 6), 0, "read B[?]", "write B[5]")
	wantAccesses(t, with(1, 6, 3), 0, "read B[5]", "write B[5]")
	p := mustParse(t, "proc p(a) { x = read A[0]; if (x) { write A[1] = 1; x = read A[2]; } else { write A[3] = 1; } for i in 2 { write A[4] = 1; } write A[5] = 1; }")
	wantAccesses(t, p, 0, "read A[0]", "write A[1]", "read A[2]", "write A[3]", "write A[4]", "write A[5]")
	wantAccesses(t, onlyProc(p, 0), 0, "write A[5]", "write A[4]", "write A[3]", "read A[2]", "write A[1]", "read A[0]")
}

// keyTold asks for the key of a read and of a write with that expression, behind some statements.
func keyTold(t *testing.T, ahead, expr, want string) {
	t.Helper()
	for _, x := range []told{
		{ahead + " q = read C[" + expr + "];", []string{"read C[" + want + "]"}},
		{ahead + " write C[" + expr + "] = q;", []string{"write C[" + want + "]"}},
	} {
		all := impl.Accesses(conflictsOf(t, "proc p(a) { "+x.stmts+" }"), 0)
		if len(all) == 0 || accessText(all[len(all)-1]) != x.want[0] {
			t.Errorf("%s: not %s: %v", x.stmts, x.want[0], all)
		}
	}
}

func TestKeysThatAreKnown(t *testing.T) {
	for expr, want := range map[string]string{
		"0": "0", "3": "3", "999999999": "999999999", "-3": "-3", "-0": "0", "(3)": "3", "-(3)": "-3", "(-3)": "-3",
	} {
		keyTold(t, "", expr, want)
		keyTold(t, "v = 1;", expr, want)
		keyTold(t, "v = "+expr+";", "v", want)
	}
	for _, expr := range []string{"--3", "---3", "-a", "-(1 + 2)", "-(-(3))", "1 + 2", "3 + 0", "5 - 2", "1 * 3", "6 / 2", "7 % 4", "1 < 2", "1 == 1", "a", "a + 0", "3 / 0", "-v", "v + 0", "--v"} {
		keyTold(t, "", expr, "?")
		keyTold(t, "v = "+expr+";", "v", "?")
		keyTold(t, "v = 1; w = "+expr+";", "w", "?")
	}
	// The value that is written says nothing of the key.
	wantTold(t, told{"write A[a] = 3;", []string{"write A[?]"}}, told{"write A[3] = a;", []string{"write A[3]"}}, told{"v = 4; write A[a] = v;", []string{"write A[?]"}})
}

func TestKeysAtTheEdges(t *testing.T) {
	for _, x := range [][2]int{{0, 0}, {1, -1}, {-1, 1}, {1000000000, -1000000000}, {math.MaxInt, -math.MaxInt}, {-math.MaxInt, math.MaxInt}, {math.MinInt, math.MinInt}} {
		n, neg := x[0], x[1]
		num, back := strconv.Itoa(n), strconv.Itoa(neg)
		wantAccesses(t, bodySet(numNode(n), nodeOf(impl.NkRead, "x", 0, 0), kidsNode(impl.NkBlock, 1)), 0, "read A["+num+"]")
		wantAccesses(t, bodySet(numNode(n), kidsNode(impl.NkNeg, 0), nodeOf(impl.NkRead, "x", 0, 1), kidsNode(impl.NkBlock, 2)), 0, "read A["+back+"]")
		wantAccesses(t, bodySet(numNode(n), kidsNode(impl.NkNeg, 0), kidsNode(impl.NkNeg, 1), nodeOf(impl.NkRead, "x", 0, 2), kidsNode(impl.NkBlock, 3)), 0, "read A[?]")
		wantAccesses(t, bodySet(numNode(n), nodeOf(impl.NkSet, "v", 0, 0), varNode("v"), varNode("v"), nodeOf(impl.NkWrite, "", 2, 2, 3), kidsNode(impl.NkBlock, 1, 4)), 0, "write C["+num+"]")
		mark := bodySet(numNode(n), kidsNode(impl.NkNeg, 0), numNode(n), nodeOf(impl.NkWrite, "", 4, 1, 2), kidsNode(impl.NkBlock, 3))
		wantAccesses(t, mark, 0, "write #["+back+"] "+back)
	}
}

func TestKeysOfKnownVariables(t *testing.T) {
	for ahead, want := range map[string]string{
		"v = 3;":                       "3",
		"v = -3;":                      "-3",
		"v = 3; v = 4;":                "4",
		"v = a; v = 4;":                "4",
		"v = read B[0]; v = 4;":        "4",
		"if (a) { v = 5; } v = 4;":     "4",
		"for v in 2 { v = 5; } v = 4;": "4",
		"v = 4; w = 5;":                "4",
		"v = 4; w = a;":                "4",
		"v = 4; w = read B[v];":        "4",
		"v = 4; write B[v] = v; write C[4] = 1; write D[4] = 1;": "4",
		"v = 4; abort;":    "4",
		"v = 4; return v;": "4",
		"v = 4; w = a; x = read B[v]; write C[v] = v; abort; return 1;": "4",
		"":                                        "?",
		"w = 4;":                                  "?",
		"v = a;":                                  "?",
		"v = v;":                                  "?",
		"v = 4; v = a;":                           "?",
		"v = 4; v = v;":                           "?",
		"v = 4; v = 1 + 1;":                       "?",
		"v = 4; v = --1;":                         "?",
		"w = 4; v = w;":                           "?",
		"v = 4; v = read B[0];":                   "?",
		"v = 4; v = read B[v]; w = 5;":            "?",
		"v = 4; if (a) { }":                       "?",
		"v = 4; if (a) { } else { }":              "?",
		"v = 4; if (a) { v = 4; } w = 5;":         "?",
		"v = 4; for i in 1 { }":                   "?",
		"v = 4; for v in 2 { } w = 5;":            "?",
		"if (a) { v = 4; }":                       "?",
		"if (a) { v = 4; } else { v = 4; }":       "?",
		"for i in 2 { v = 4; }":                   "?",
		"if (a) { } w = 4; x = read B[w];":        "?",
		"v = 4; v = read B[0]; if (a) { } w = 1;": "?",
	} {
		keyTold(t, ahead, "v", want)
	}
}

// What stands around the block, within a block or behind the access makes nothing known; what stands in the block does.
func TestKeysInBlocks(t *testing.T) {
	wantTold(t,
		told{"v = 4; if (a) { x = read A[v]; }", []string{"read A[?]"}},
		told{"v = 4; if (a) { } else { x = read A[v]; }", []string{"read A[?]"}},
		told{"v = 4; for i in 2 { x = read A[v]; }", []string{"read A[?]"}},
		told{"v = 4; for i in 2 { if (a) { write A[v] = 1; } }", []string{"write A[?]"}},
		told{"if (a) { v = 4; x = read A[v]; }", []string{"read A[4]"}},
		told{"if (a) { } else { v = 4; x = read A[v]; }", []string{"read A[4]"}},
		told{"if (a) { v = 4; } else { x = read A[v]; }", []string{"read A[?]"}},
		told{"if (a) { x = read A[v]; v = 4; } else { v = 5; x = read A[v]; }", []string{"read A[?]", "read A[5]"}},
		told{"for i in 2 { v = 4; x = read A[v]; v = 5; }", []string{"read A[4]"}},
		told{"for i in 2 { x = read A[v]; v = 5; }", []string{"read A[?]"}},
		told{"for v in 2 { x = read A[v]; }", []string{"read A[?]"}},
		told{"v = 4; for v in 2 { x = read A[v]; v = 3; y = read A[v]; }", []string{"read A[?]", "read A[3]"}},
		told{"for i in 2 { v = 4; for j in 2 { x = read A[v]; } y = read A[v]; }", []string{"read A[?]", "read A[?]"}},
		told{"x = read A[v]; v = 4;", []string{"read A[?]"}},
		told{"v = 3; x = read A[v]; v = 4; y = read A[v];", []string{"read A[3]", "read A[4]"}},
		told{"v = 3; v = read A[v]; v = read A[v];", []string{"read A[3]", "read A[?]"}},
		told{"v = 3; write A[v] = 1; write B[v] = 1; v = read C[v]; write D[v] = 1;", []string{"write A[3]", "write B[3]", "read C[3]", "write #[?]"}},
		told{"x = read A[a]; a = 2; y = read A[a]; write A[-a] = a;", []string{"read A[?]", "read A[2]", "write A[?]"}},
	)
	p := mustParse(t, "proc p(v, w) { v = 4; x = read A[w]; } proc q(v) { x = read A[v]; w = 5; } proc r(w) { y = read A[w]; z = read A[v]; }")
	wantAccesses(t, p, 0, "read A[?]")
	wantAccesses(t, p, 1, "read A[?]")
	wantAccesses(t, p, 2, "read A[?]", "read A[?]")
}

// oddSet has a variable of that name, which the other nodes have, too, where their Kinds do not ask for one.
func oddSet(name string) impl.Set {
	var l []impl.Node
	put := func(x impl.Node) int {
		l = append(l, x)
		return len(l) - 1
	}
	num := func(n int) int { return put(nodeOf(impl.NkNum, name, n)) }
	stmts := []int{
		put(nodeOf(impl.NkSet, name, 99, num(7))),
		put(nodeOf(impl.NkAbort, name, impl.NkIf)),
		put(nodeOf(impl.NkReturn, name, impl.NkSet, num(8))),
		put(nodeOf(impl.NkWrite, name, 1, num(8), num(9))),
		put(nodeOf(impl.NkRead, "other", 1, num(9))),
		put(nodeOf(impl.NkSet, "other", 4, num(9))),
		put(nodeOf(impl.NkRead, name, 0, put(nodeOf(impl.NkVar, name, 3)))),
	}
	put(nodeOf(impl.NkBlock, name, 4, stmts...))
	return bodySet(l...)
}

// What its Kind does not ask for does not matter, nor what a name looks like.
func TestAccessesLeaveOutTheRest(t *testing.T) {
	for _, name := range []string{"v", "", "$0", "if", "a-b", "V", strings.Repeat("v", 300)} {
		wantAccesses(t, oddSet(name), 0, "write B[8]", "read B[9]", "read A[7]")
	}
	// The names of a known one and of another one, which look alike.
	for _, x := range [][2]string{{"v", "v "}, {"v", "V"}, {"", "$"}, {"a", "ab"}, {"x", ""}} {
		p := bodySet(numNode(7), nodeOf(impl.NkSet, x[0], 0, 0), varNode(x[1]), nodeOf(impl.NkRead, "r", 0, 2), varNode(x[0]), nodeOf(impl.NkRead, "r", 0, 4), kidsNode(impl.NkBlock, 1, 3, 5))
		wantAccesses(t, p, 0, "read A[?]", "read A[7]")
	}
}
