package tests

import (
	"math"
	"slices"
	"strings"
	"testing"

	"loop.example/g00689/impl"
)

func TestMarksBehindAnAccess(t *testing.T) {
	wantTold(t,
		told{"x = read A[a]; write D[1] = 1;", []string{"read A[?] 1", "write #[1]"}},
		told{"write A[a] = 5; write D[1] = 1;", []string{"write A[?] 1", "write #[1]"}},
		told{"x = read A[a]; write D[2] = 1; write D[1] = 0;", []string{"read A[?] 1 2", "write #[2] 1", "write #[1]"}},
		told{"write A[a] = 5; write D[2] = 1; write D[1] = 0;", []string{"write A[?] 1 2", "write #[2] 1", "write #[1]"}},
		told{"x = read A[a]; write D[-1] = -2;", []string{"read A[?] -1", "write #[-1]"}},
		told{"x = read A[3]; y = read A[4]; write D[3] = 1;", []string{"read A[3]", "read A[4] 3", "write #[3]"}},
		told{"x = read A[3]; write B[4] = x; write D[3] = 1;", []string{"read A[3]", "write B[4] 3", "write #[3]"}},
		// A write of another table is no mark, and has guards of its own.
		told{"x = read A[a]; write A[1] = 1; write D[2] = 1;", []string{"read A[?]", "write A[1] 2", "write #[2]"}},
		told{"x = read A[a]; write B[1] = 1; write C[2] = 1;", []string{"read A[?]", "write B[1]", "write C[2]"}},
	)
}

func TestMarksWithAnotherStatementBetween(t *testing.T) {
	for _, between := range []string{"y = 1;", "y = a;", "abort;", "return 0;", "if (a) { }", "if (a) { } else { }", "for i in 2 { }", "if (1) { write D[5] = 1; }", "for i in 1 { write D[5] = 1; }"} {
		for _, access := range []string{"x = read A[a];", "write A[a] = 5;"} {
			p := conflictsOf(t, "proc p(a) { "+access+between+" write D[1] = 1; }")
			if x := impl.Accesses(p, 0)[0]; x.T != 0 || len(x.Rows) != 0 {
				t.Errorf("%s: %s", impl.SetText(p), accessText(x))
			}
			p = conflictsOf(t, "proc p(a) { "+access+"write D[3] = 1; "+between+" write D[1] = 1; }")
			if x := impl.Accesses(p, 0)[0]; x.T != 0 || !slices.Equal(x.Rows, []int{3}) {
				t.Errorf("%s: %s", impl.SetText(p), accessText(x))
			}
		}
	}
}

// A write of the table of conflicts whose key or value is not known is no mark, but an access it is.
func TestMarksThatAreNotKnown(t *testing.T) {
	for _, expr := range []string{"a", "v", "x", "--1", "1 + 0", "2 * 1", "-a", "-(1 + 0)", "1 == 1"} {
		wantTold(t,
			told{"v = 1; x = read A[a]; write D[2] = " + expr + "; write D[3] = 1;", []string{"read A[?]", "write #[2] 3", "write #[3]"}},
			told{"v = 1; x = read A[a]; write D[4] = 1; write D[2] = " + expr + "; write D[3] = 1;", []string{"read A[?] 4", "write #[4]", "write #[2] 3", "write #[3]"}},
		)
		for _, ahead := range []string{"x = read A[a]; ", "write A[a] = 5; "} {
			p := conflictsOf(t, "proc p(a) { v = 1; "+ahead+"write D["+expr+"] = 1; write D[3] = 1; }")
			l := impl.Accesses(p, 0)
			if len(l) != 3 || len(l[0].Rows) != 0 || !slices.Equal(l[1].Rows, []int{3}) {
				t.Errorf("%s: %v", impl.SetText(p), l)
			}
		}
		// Nor is it one at the beginning of the Body.
		p := conflictsOf(t, "proc p(a) { write D[1] = 1; write D["+expr+"] = 1; write D[3] = 1; x = read A[a]; }")
		if l := impl.Accesses(p, 0); len(l) != 4 || !slices.Equal(l[3].Rows, []int{1}) || !slices.Equal(l[1].Rows, []int{1, 3}) {
			t.Errorf("%s: %v", impl.SetText(p), l)
		}
		p = conflictsOf(t, "proc p(a) { write D[1] = "+expr+"; write D[3] = 1; x = read A[a]; }")
		wantAccesses(t, p, 0, "write #[1] 3", "write #[3]", "read A[?]")
	}
	// The key of a write may be known where a mark's would not be.
	wantTold(t, told{"x = read A[a]; v = 1; y = read B[a]; write D[v] = 1;", []string{"read A[?]", "read B[?]", "write #[1]"}})
}

func TestMarksAtTheBeginning(t *testing.T) {
	wantTold(t,
		told{"write D[1] = 1;", []string{"write #[1] 1"}},
		told{"write D[2] = 1; write D[1] = 1;", []string{"write #[2] 1 2", "write #[1] 1 2"}},
		told{"write D[0] = 1; x = read A[a];", []string{"write #[0] 0", "read A[?] 0"}},
		told{"write D[3] = 1; write D[-1] = -1; x = read A[a]; write D[2] = 1; y = 1; write D[9] = 1; write B[a] = 1;",
			[]string{"write #[3] -1 3", "write #[-1] -1 3", "read A[?] -1 2 3", "write #[2] -1 3", "write #[9] -1 3", "write B[?] -1 3"}},
		told{"write D[1] = 0; if (a) { for i in 2 { x = read A[i]; write D[0] = 0; } } else { write B[1] = 1; if (a) { write B[2] = 2; } }",
			[]string{"write #[1] 1", "read A[?] 0 1", "write #[0] 1", "write B[1] 1", "write B[2] 1"}},
		// Behind the first other statement they are marks of what stands right ahead of them alone.
		told{"y = 1; write D[1] = 1; x = read A[a];", []string{"write #[1]", "read A[?]"}},
		told{"x = read A[a]; write D[1] = 1; y = read B[a];", []string{"read A[?] 1", "write #[1]", "read B[?]"}},
		told{"if (a) { } write D[1] = 1; x = read A[a];", []string{"write #[1]", "read A[?]"}},
		told{"for i in 1 { } write D[1] = 1; x = read A[a];", []string{"write #[1]", "read A[?]"}},
		told{"write A[1] = 1; write D[1] = 1; x = read A[a];", []string{"write A[1] 1", "write #[1]", "read A[?]"}},
		told{"write D[4] = 1; write A[1] = 1; write D[1] = 1; x = read A[a];", []string{"write #[4] 4", "write A[1] 1 4", "write #[1] 4", "read A[?] 4"}},
		// At the beginning of a block that is no Body they are no such marks.
		told{"if (a) { write D[1] = 1; y = 1; x = read A[a]; } y = read B[a];", []string{"write #[1]", "read A[?]", "read B[?]"}},
		told{"for i in 2 { write D[1] = 1; x = read A[a]; }", []string{"write #[1]", "read A[?]"}},
		told{"for i in 2 { write D[2] = 1; write D[1] = 1; x = read A[a]; }", []string{"write #[2] 1", "write #[1]", "read A[?]"}},
	)
	p := conflictsOf(t, "proc p() { write D[1] = 1; x = read A[0]; } proc q() { x = read A[0]; } proc r() { write D[2] = 1; if (1) { write A[0] = 1; } }")
	wantAccesses(t, p, 0, "write #[1] 1", "read A[0] 1")
	wantAccesses(t, p, 1, "read A[0]")
	wantAccesses(t, p, 2, "write #[2] 2", "write A[0] 2")
}

// Guards do not go on into another block.
func TestGuardsInBlocks(t *testing.T) {
	wantTold(t,
		told{"if (a) { x = read A[a]; } write D[1] = 1;", []string{"read A[?]", "write #[1]"}},
		told{"if (a) { x = read A[a]; } else { write D[1] = 1; }", []string{"read A[?]", "write #[1]"}},
		told{"for i in 2 { write D[1] = 1; x = read A[a]; } write D[2] = 1;", []string{"write #[1]", "read A[?]", "write #[2]"}},
		told{"x = read A[a]; if (a) { write D[1] = 1; }", []string{"read A[?]", "write #[1]"}},
		told{"if (a) { x = read A[a]; write D[1] = 1; } else { write B[a] = 1; write D[2] = 1; }", []string{"read A[?] 1", "write #[1]", "write B[?] 2", "write #[2]"}},
		told{"for i in 2 { if (a) { x = read A[i]; write D[1] = 1; write A[i] = x; } }", []string{"read A[?] same 1", "write #[1]", "write A[?]"}},
		told{"if (a) { x = read A[a]; } write A[a] = x;", []string{"read A[?]", "write A[?]"}},
		told{"x = read A[a]; if (a) { write A[a] = x; }", []string{"read A[?]", "write A[?]"}},
		told{"x = read A[a]; for i in 1 { write A[a] = x; }", []string{"read A[?]", "write A[?]"}},
		told{"if (a) { x = read A[a]; write A[a] = x; } else { y = read B[a]; write B[a] = y; }", []string{"read A[?] same", "write A[?]", "read B[?] same", "write B[?]"}},
	)
}

func TestRowsAscend(t *testing.T) {
	wantTold(t,
		told{"write D[5] = 1; write D[-5] = 1; write D[5] = 2; x = read A[a]; write D[7] = 1; write D[0] = 1; write D[5] = 1; write D[0] = 9; write D[-7] = 1; write A[a] = x;",
			[]string{"write #[5] -5 5", "write #[-5] -5 5", "write #[5] -5 5", "read A[?] same -7 -5 0 5 7", "write #[7] -7 -5 0 5", "write #[0] -7 -5 0 5", "write #[5] -7 -5 0 5", "write #[0] -7 -5 5", "write #[-7] -5 5", "write A[?] -5 5"}},
		told{"write D[1] = 1; x = read A[a]; write D[1] = 1; write D[1] = 0;", []string{"write #[1] 1", "read A[?] 1", "write #[1] 1", "write #[1] 1"}},
		told{"x = read A[a]; write D[10] = 1; write D[9] = 1; write D[-10] = 1; write D[-9] = 1;",
			[]string{"read A[?] -10 -9 9 10", "write #[10] -10 -9 9", "write #[9] -10 -9", "write #[-10] -9", "write #[-9]"}},
	)
	edges := []int{math.MaxInt, 0, math.MinInt, -1, 1, math.MinInt, math.MaxInt, math.MinInt + 1}
	var l []impl.Node
	var kids []int
	l = append(l, varNode("a"), nodeOf(impl.NkRead, "x", 0, 0))
	kids = append(kids, 1)
	for _, n := range edges {
		l = append(l, numNode(n), numNode(n), nodeOf(impl.NkWrite, "", 4, len(l), len(l)+1))
		kids = append(kids, len(l)-1)
	}
	x := impl.Accesses(bodySet(append(l, kidsNode(impl.NkBlock, kids...))...), 0)[0]
	if !slices.Equal(x.Rows, []int{math.MinInt, math.MinInt + 1, -1, 0, 1, math.MaxInt}) {
		t.Error("not ascending, or not each once:", x.Rows)
	}
}

func TestReturnsBehindARead(t *testing.T) {
	wantTold(t,
		told{"x = read A[v]; write A[v] = x;", []string{"read A[?] same", "write A[?]"}},
		told{"x = read D[v]; write D[v] = x;", []string{"read D[?]", "write #[?]"}},
		told{"v = 3; x = read A[v]; write A[v] = x;", []string{"read A[3] same", "write A[3]"}},
		told{"x = read A[a]; write A[a] = x;", []string{"read A[?] same", "write A[?]"}},
		told{"a = read A[v]; write A[v] = a;", []string{"read A[?] same", "write A[?]"}},
		told{"for i in 2 { x = read A[i]; write A[i] = x; }", []string{"read A[?] same", "write A[?]"}},
		// Marks ahead of it, and behind it.
		told{"x = read A[v]; write D[1] = 1; write A[v] = x;", []string{"read A[?] same 1", "write #[1]", "write A[?]"}},
		told{"x = read A[v]; write A[v] = x; write D[2] = 1;", []string{"read A[?] same 2", "write A[?] 2", "write #[2]"}},
		told{"x = read A[v]; write D[3] = 1; write A[v] = x; write D[1] = 1; write D[2] = 1;",
			[]string{"read A[?] same 1 2 3", "write #[3]", "write A[?] 1 2", "write #[1] 2", "write #[2]"}},
		// More than one; behind a write they are no guards.
		told{"x = read A[v]; write A[v] = x; write A[v] = x;", []string{"read A[?] same", "write A[?]", "write A[?]"}},
		told{"x = read A[v]; write A[v] = x; write D[1] = 1; write A[v] = x; write D[2] = 1;",
			[]string{"read A[?] same 1 2", "write A[?] 1", "write #[1]", "write A[?] 2", "write #[2]"}},
		told{"write A[v] = x; write A[v] = x; write D[1] = 1;", []string{"write A[?]", "write A[?] 1", "write #[1]"}},
		told{"write A[v] = x; write D[1] = 1; write A[v] = x;", []string{"write A[?] 1", "write #[1]", "write A[?]"}},
		// Of the read that stands right ahead alone.
		told{"x = read A[v]; y = read A[v]; write A[v] = y;", []string{"read A[?]", "read A[?] same", "write A[?]"}},
		told{"x = read A[v]; y = read A[v]; write A[v] = x;", []string{"read A[?]", "read A[?]", "write A[?]"}},
		told{"x = read A[v]; write A[v] = x; x = read A[v];", []string{"read A[?] same", "write A[?]", "read A[?]"}},
		told{"write A[v] = x; x = read A[v];", []string{"write A[?]", "read A[?]"}},
	)
	wantAccesses(t, mustParse(t, "proc p(v) { x = read D[v]; write D[v] = x; }"), 0, "read D[?] same", "write D[?]")
	for i, table := range strings.Split("ABCD", "") {
		for j, other := range strings.Split("ABCD", "") {
			l := impl.Accesses(mustParse(t, "proc p(v) { x = read "+table+"[v]; write "+other+"[v] = x; }"), 0)
			if len(l) != 2 || l[0].Same != (i == j) || l[1].Same {
				t.Errorf("read of %s, write of %s: %v", table, other, l)
			}
		}
	}
}

// wantNoReturn asks for a read that is not Same, and for its marks, which end where what is no return stands.
func wantNoReturn(t *testing.T, read, other string) {
	t.Helper()
	p := conflictsOf(t, "proc p(v, w) { "+read+" write D[1] = 1; "+other+" write D[2] = 1; }")
	l := impl.Accesses(p, 0)
	if len(l) < 3 || l[0].Write || l[0].Same || !slices.Equal(l[0].Rows, []int{1}) {
		t.Errorf("%s: %v", impl.SetText(p), l)
	}
}

func TestReturnsThatAreNone(t *testing.T) {
	for _, other := range []string{
		"write B[v] = x;", "write A[w] = x;", "write A[v] = w;", "write A[v] = v;", "write A[x] = x;", "write A[x] = v;", "write A[v] = y;",
		"write A[v] = x + 0;", "write A[v] = -x;", "write A[v] = --x;", "write A[v + 0] = x;", "write A[-v] = x;", "write A[--v] = x;",
		"write A[v] = 1;", "write A[1] = x;", "write A[1] = 1;", "write D[v] = x;", "x = read A[v];", "x = v; write A[v] = x;", "y = 1; write A[v] = x;", "abort; write A[v] = x;", "return x; write A[v] = x;",
	} {
		wantNoReturn(t, "x = read A[v];", other)
	}
	// A key that is no variable, or the variable that is read itself.
	wantNoReturn(t, "v = read A[v];", "write A[v] = v;")
	wantNoReturn(t, "x = read A[x];", "write A[x] = x;")
	for _, key := range []string{"3", "-3", "v + 0", "-v", "--v", "v * 1", "v == 1"} {
		wantNoReturn(t, "x = read A["+key+"];", "write A["+key+"] = x;")
		wantNoReturn(t, "x = read A["+key+"];", "write A[v] = x;")
	}
	wantNoReturn(t, "v = 3; x = read A[3];", "write A[v] = x;")
	wantNoReturn(t, "v = 3; x = read A[v];", "write A[3] = x;")
}

// Names are told apart as texts, whatever they are, and what a variable's N is does not matter.
func TestReturnsOfAnyNames(t *testing.T) {
	with := func(v, x, v2, x2 string) impl.Set {
		return bodySet(nodeOf(impl.NkVar, v, 5), nodeOf(impl.NkRead, x, 0, 0), nodeOf(impl.NkVar, v2, 6), nodeOf(impl.NkVar, x2, 7), nodeOf(impl.NkWrite, "w", 0, 2, 3), kidsNode(impl.NkBlock, 1, 4))
	}
	names := []string{"", "v", "x", "$0", "$1", "V", "v ", "for", strings.Repeat("v", 200)}
	for _, v := range names {
		for _, x := range names {
			for _, v2 := range names {
				for _, x2 := range []string{v, x, "x", ""} {
					p := with(v, x, v2, x2)
					if l := impl.Accesses(p, 0); len(l) != 2 || l[0].Same != (v != x && v == v2 && x == x2) || l[1].Same {
						t.Errorf("%q: %v", []string{v, x, v2, x2}, l)
					}
				}
			}
		}
	}
}

// A number has no name, and a write none either, even where there stands one.
func TestReturnsOfOddNodes(t *testing.T) {
	kinds := []int{impl.NkVar, impl.NkNum}
	for i := range 8 {
		key, key2, val2 := nodeOf(kinds[i/4], "v", 0), nodeOf(kinds[i/2%2], "v", 0), nodeOf(kinds[i%2], "x", 0)
		l := impl.Accesses(bodySet(key, nodeOf(impl.NkRead, "x", 0, 0), key2, val2, nodeOf(impl.NkWrite, "x", 0, 2, 3), kidsNode(impl.NkBlock, 1, 4)), 0)
		if len(l) != 2 || l[0].Same != (i == 0) || l[1].Same {
			t.Errorf("behind a read: %v of %v", l, []impl.Node{key, key2, val2})
		}
		l = impl.Accesses(bodySet(key, numNode(1), nodeOf(impl.NkWrite, "x", 0, 0, 1), key2, val2, nodeOf(impl.NkWrite, "x", 0, 3, 4), kidsNode(impl.NkBlock, 2, 5)), 0)
		if len(l) != 2 || l[0].Same || l[1].Same {
			t.Errorf("behind a write: %v of %v", l, []impl.Node{key, key2, val2})
		}
	}
	signed := bodySet(varNode("v"), nodeOf(impl.NkNeg, "v", 0, 0), nodeOf(impl.NkRead, "x", 0, 1), varNode("v"), varNode("x"), nodeOf(impl.NkWrite, "", 0, 3, 4), kidsNode(impl.NkBlock, 2, 5))
	wantAccesses(t, signed, 0, "read A[?]", "write A[?]")
	// A number that is a mark's table makes no mark, where the Kind is another one.
	odd := bodySet(varNode("v"), nodeOf(impl.NkRead, "x", 0, 0), numNode(1), nodeOf(impl.NkSet, "y", 4, 2), numNode(1), numNode(1), nodeOf(impl.NkWrite, "", 4, 4, 5), kidsNode(impl.NkBlock, 1, 3, 6))
	wantAccesses(t, odd, 0, "read A[?]", "write #[1]")
	odd.L[7].Kids = []int{3, 1, 6}
	wantAccesses(t, odd, 0, "read A[?] 1", "write #[1]")
	odd.L[7].Kids = []int{6, 3, 1}
	wantAccesses(t, odd, 0, "read A[?] 1", "write #[1] 1")
}
