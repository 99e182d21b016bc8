package tests

import (
	"slices"
	"strconv"
	"strings"
	"testing"

	"loop.example/g00689/impl"
)

// markCase has the statements of procedures p(a) and q(b), and what they become.
type markCase struct {
	p, q         string
	wantP, wantQ string
}

const markText = "write #[1] = 1;"

// wantMarked marks p and q. In the texts that are wanted, ! is the mark that is put.
func wantMarked(t *testing.T, all ...markCase) {
	t.Helper()
	for _, x := range all {
		p := mendSet(t, "proc p(a) { "+x.p+" } proc q(b) { "+x.q+" }")
		got, ok := impl.Mark(p, 0, 1)
		wantMended(t, x.p+" / "+x.q, got, ok, procText("p(a)", strings.ReplaceAll(x.wantP, "!", markText)), procText("q(b)", strings.ReplaceAll(x.wantQ, "!", markText)))
		if impl.Vuln(got, 0, 1) {
			t.Errorf("%s: vulnerable towards q", impl.SetText(got))
		}
	}
}

func TestMarkWhatOverlaps(t *testing.T) {
	for _, stmt := range []string{"x = read A[a];", "x = read A[0];", "a = read A[a];", "v = 0; x = read A[v];", "v = 1; if (a) { } x = read A[v];", "x = read A[(-0)];"} {
		wantMarked(t,
			markCase{stmt, "write A[0] = b;", stmt + " !", "write A[0] = b; !"},
			markCase{"y = 1; " + stmt + " return a;", "write A[0] = b; return b;", "y = 1; " + stmt + " ! return a;", "write A[0] = b; ! return b;"},
		)
	}
	for _, table := range []string{"A", "B", "C"} {
		read, write := "x = read "+table+"[3];", "write "+table+"[b] = 1;"
		wantMarked(t, markCase{read, write, read + " !", write + " !"})
	}
	p := mustParse(t, "proc p() { x = read D[3]; } proc q() { write D[3] = 1; }")
	got, ok := impl.Mark(p, 0, 1)
	wantMended(t, "D", got, ok, "proc p() { x = read D[3]; write #[1] = 1; }", "proc q() { write D[3] = 1; write #[1] = 1; }")
}

func TestMarkWhatDoesNotOverlap(t *testing.T) {
	for _, stmts := range []string{"", "return a;", "x = read A[1];", "x = read B[a];", "x = read D[1];", "v = 1; x = read A[v];", "write A[a] = 1;", "write A[0] = 1;", "if (a) { x = read A[3]; }"} {
		wantMarked(t, markCase{stmts, "write A[0] = b;", stmts, "write A[0] = b;"})
	}
	for _, other := range []string{"", "x = read A[b];", "write B[b] = 1;", "write A[1] = 1;", "return b;"} {
		wantMarked(t, markCase{"x = read A[0];", other, "x = read A[0];", other})
	}
}

// Each access that meets one of the other side is marked, and each but once.
func TestMarkSeveral(t *testing.T) {
	wantMarked(t,
		markCase{"x = read A[a]; y = read A[0];", "write A[0] = b;", "x = read A[a]; ! y = read A[0]; !", "write A[0] = b; !"},
		markCase{"x = read A[a]; y = read A[1];", "write A[0] = b;", "x = read A[a]; ! y = read A[1];", "write A[0] = b; !"},
		markCase{"x = read A[a];", "write A[0] = b; write A[1] = b; write A[b] = 2;", "x = read A[a]; !", "write A[0] = b; ! write A[1] = b; ! write A[b] = 2; !"},
		markCase{"x = read A[1];", "write A[0] = b; write A[1] = b; write A[b] = 2;", "x = read A[1]; !", "write A[0] = b; write A[1] = b; ! write A[b] = 2; !"},
		markCase{"x = read A[a]; write B[a] = x; y = read B[a]; z = read C[a];", "write C[b] = b; write A[b] = b; x = read B[b];",
			"x = read A[a]; ! write B[a] = x; y = read B[a]; z = read C[a]; !", "write C[b] = b; ! write A[b] = b; ! x = read B[b];"},
		// What meets none is none's, on both sides.
		markCase{"x = read A[0]; y = read B[1];", "write A[1] = b; write B[0] = b; write B[1] = b;", "x = read A[0]; y = read B[1]; !", "write A[1] = b; write B[0] = b; write B[1] = b; !"},
	)
}

// A mark is put into the block in which the access stands.
func TestMarkInBlocks(t *testing.T) {
	wantMarked(t,
		markCase{"if (a) { x = read A[a]; }", "write A[0] = b;", "if (a) { x = read A[a]; ! }", "write A[0] = b; !"},
		markCase{"if (a) { x = read A[a]; } y = 1;", "if (b) { write A[0] = b; } else { y = 2; }", "if (a) { x = read A[a]; ! } y = 1;", "if (b) { write A[0] = b; ! } else { y = 2; }"},
		markCase{"if (a) { } else { x = read A[a]; y = 2; }", "if (b) { y = 2; } else { write A[0] = b; } return 1;", "if (a) { } else { x = read A[a]; ! y = 2; }", "if (b) { y = 2; } else { write A[0] = b; ! } return 1;"},
		markCase{"for i in 2 { x = read A[i]; }", "for i in 3 { y = i; write A[i] = b; }", "for i in 2 { x = read A[i]; ! }", "for i in 3 { y = i; write A[i] = b; ! }"},
		markCase{"for i in 2 { if (i) { x = read A[i]; if (x) { y = read A[x]; } } else { y = read A[1]; } }", "write A[2] = b; for i in 3 { for j in 2 { write A[j] = b; } write A[2] = b; }",
			"for i in 2 { if (i) { x = read A[i]; ! if (x) { y = read A[x]; ! } } else { y = read A[1]; ! } }", "write A[2] = b; ! for i in 3 { for j in 2 { write A[j] = b; ! } write A[2] = b; ! }"},
		markCase{"x = read A[a]; if (x) { }", "write A[0] = b; for i in 2 { }", "x = read A[a]; ! if (x) { }", "write A[0] = b; ! for i in 2 { }"},
	)
}

// Marks with other rows are guards: the mark is put behind them.
func TestMarkBehindMarks(t *testing.T) {
	other, third, fourth := "write #[2] = 1;", "write #[(-1)] = 0;", "write #[4] = (-4);"
	source := func(s string) string { return strings.ReplaceAll(s, "#", "D") }
	for _, x := range []markCase{
		{"x = read A[a]; " + other, "write A[0] = b;", "x = read A[a]; " + other + " !", "write A[0] = b; !"},
		{"x = read A[a]; " + other + " " + third + " y = 1;", "write A[0] = b; " + fourth, "x = read A[a]; " + other + " " + third + " ! y = 1;", "write A[0] = b; " + fourth + " !"},
		{"x = read A[a];", "if (b) { write A[0] = b; " + third + " " + third + " } return b;", "x = read A[a]; !", "if (b) { write A[0] = b; " + third + " " + third + " ! } return b;"},
		{"x = read A[a]; y = 1; " + other, "write A[0] = b; y = 1; " + other, "x = read A[a]; ! y = 1; " + other, "write A[0] = b; ! y = 1; " + other},
		// What is no mark is no guard, and so are marks behind it.
		{"x = read A[a]; write #[a] = 1; " + other, "write A[0] = b; write #[2] = b; " + other, "x = read A[a]; ! write #[a] = 1; " + other, "write A[0] = b; ! write #[2] = b; " + other},
		{"x = read A[a]; write B[2] = 1; " + other, "write A[0] = b; write B[2] = b;", "x = read A[a]; ! write B[2] = 1; " + other, "write A[0] = b; ! write B[2] = b;"},
		{"x = read A[a]; " + other + " write #[(1 + 0)] = 1; " + third, "write A[0] = b;", "x = read A[a]; " + other + " ! write #[(1 + 0)] = 1; " + third, "write A[0] = b; !"},
		// Those at the beginning of the Body are no guards of what stands there; they go with all.
		{other + " x = read A[a];", third + " write A[0] = b;", other + " x = read A[a]; !", third + " write A[0] = b; !"},
	} {
		wantMarked(t, markCase{source(x.p), source(x.q), x.wantP, x.wantQ})
	}
}

// Where 1 is in the Rows already, on either side, no other one is put there; where it is on both, all is as it was.
func TestMarkWhatIsMarked(t *testing.T) {
	read, write := "x = read A[a];", "write A[0] = b;"
	for _, x := range []struct{ stmts, text string }{
		{" write D[1] = 1;", " write #[1] = 1;"}, {" write D[1] = 0;", " write #[1] = 0;"}, {" write D[1] = -7;", " write #[1] = (-7);"},
		{" write D[2] = 1; write D[1] = 1; write D[3] = 1;", " write #[2] = 1; write #[1] = 1; write #[3] = 1;"},
	} {
		wantMarked(t,
			markCase{read + x.stmts, write, read + x.text, write + " !"},
			markCase{read, write + x.stmts, read + " !", write + x.text},
			markCase{read + x.stmts, write + x.stmts, read + x.text, write + x.text},
			markCase{x.stmts[1:] + " " + read, write, x.text[1:] + " " + read, write + " !"},
			markCase{read, x.stmts[1:] + " " + write, read + " !", x.text[1:] + " " + write},
			markCase{x.stmts[1:] + " " + read, write + x.stmts, x.text[1:] + " " + read, write + x.text},
			markCase{x.stmts[1:] + " if (a) { " + read + " }", write, x.text[1:] + " if (a) { " + read + " }", write + " !"},
			// Behind another statement they are marks of none.
			markCase{"y = 1;" + x.stmts + " " + read, write + " y = 1;" + x.stmts, "y = 1;" + x.text + " " + read + " !", write + " ! y = 1;" + x.text},
			// One is marked, the other one not.
			markCase{read + x.stmts + " " + read, write, read + x.text + " " + read + " !", write + " !"},
			markCase{read, write + " " + write + x.stmts, read + " !", write + " ! " + write + x.text},
		)
	}
	// A mark with row 1, but not as a number.
	p := mendSet(t, "proc p(a) { x = read A[a]; write D[-2] = 1; } proc q(b) { write A[0] = b; }")
	p.L[slices.IndexFunc(p.L, isKind(impl.NkNeg))-1].N = -1
	got, ok := impl.Mark(p, 0, 1)
	wantMended(t, "minus minus one", got, ok, "proc p(a) { x = read A[a]; write #[(--1)] = 1; }", "proc q(b) { write A[0] = b; write #[1] = 1; }")
}

// Who is covered otherwise is not marked: by a return, or by another row that both have.
func TestMarkWhatIsCovered(t *testing.T) {
	same := "x = read A[a]; write A[a] = x;"
	wantMarked(t,
		markCase{same, "write A[0] = b;", same, "write A[0] = b;"},
		markCase{same + " y = read A[0];", "write A[0] = b;", same + " y = read A[0]; !", "write A[0] = b; !"},
		markCase{"y = read A[0]; " + same, "write A[0] = b; write A[1] = b;", "y = read A[0]; ! " + same, "write A[0] = b; ! write A[1] = b;"},
		markCase{"x = read A[a]; write D[5] = 1;", "write A[0] = b; write D[5] = 1; write A[1] = 2;", "x = read A[a]; write #[5] = 1; !", "write A[0] = b; write #[5] = 1; write A[1] = 2; !"},
		markCase{"x = read A[a]; write D[5] = 1;", "write A[0] = b; write D[5] = 1;", "x = read A[a]; write #[5] = 1;", "write A[0] = b; write #[5] = 1;"},
		markCase{"write D[0] = 1; x = read A[a];", "write D[0] = 2; write A[0] = b;", "write #[0] = 1; x = read A[a];", "write #[0] = 2; write A[0] = b;"},
		markCase{"write D[0] = 1; x = read A[a];", "write A[0] = b; write D[0] = 2; write A[1] = 1;", "write #[0] = 1; x = read A[a]; !", "write A[0] = b; write #[0] = 2; write A[1] = 1; !"},
		// A read that is written back is covered, whatever the other one does.
		markCase{"x = read A[a]; write A[a] = x; write D[2] = 1;", "y = read A[b]; write A[b] = y;", "x = read A[a]; write A[a] = x; write #[2] = 1;", "y = read A[b]; write A[b] = y;"},
	)
}

// Behind a return, where the read that it belongs to ends, too.
func TestMarkBehindReturns(t *testing.T) {
	wantMarked(t,
		markCase{"x = read A[0];", "y = read A[b]; write A[b] = y;", "x = read A[0]; !", "y = read A[b]; write A[b] = y; !"},
		markCase{"x = read A[0];", "y = read A[b]; write A[b] = y; return y;", "x = read A[0]; !", "y = read A[b]; write A[b] = y; ! return y;"},
		markCase{"x = read A[0];", "y = read A[b]; write D[2] = 1; write A[b] = y; write D[3] = 1;", "x = read A[0]; !", "y = read A[b]; write #[2] = 1; write A[b] = y; write #[3] = 1; !"},
		markCase{"x = read A[0];", "y = read A[b]; write D[1] = 1; write A[b] = y;", "x = read A[0]; !", "y = read A[b]; write #[1] = 1; write A[b] = y; !"},
		markCase{"x = read A[0];", "y = read A[b]; write A[b] = y; write D[1] = 1;", "x = read A[0]; !", "y = read A[b]; write A[b] = y; write #[1] = 1;"},
		// Two of them: the second one is no guard of the first one.
		markCase{"x = read A[0];", "y = read A[b]; write A[b] = y; write A[b] = y;", "x = read A[0]; !", "y = read A[b]; write A[b] = y; ! write A[b] = y; !"},
	)
}

// Both ends are in one procedure; what ends at the same place there has one mark.
func TestMarkTowardsItself(t *testing.T) {
	for _, x := range []mendCase{
		{"x = read A[a]; write A[a] = x + 1;", "x = read A[a]; ! write A[a] = (x + 1); !"},
		{"write A[0] = 1; x = read A[0];", "write A[0] = 1; ! x = read A[0]; !"},
		{"write A[0] = 1; x = read A[1];", "write A[0] = 1; x = read A[1];"},
		{"x = read A[a]; write A[a] = x;", "x = read A[a]; write A[a] = x;"},
		{"x = read A[a]; write A[a] = x; y = read A[0];", "x = read A[a]; write A[a] = x; ! y = read A[0]; !"},
		{"y = read A[0]; x = read A[a]; write A[a] = x;", "y = read A[0]; ! x = read A[a]; write A[a] = x; !"},
		{"x = read A[a]; write D[1] = 1; write A[a] = x + 1;", "x = read A[a]; write #[1] = 1; write A[a] = (x + 1); !"},
		{"write D[1] = 1; x = read A[a]; write A[a] = x + 1;", "write #[1] = 1; x = read A[a]; write A[a] = (x + 1);"},
		{"if (a) { x = read A[a]; } else { write A[a] = 1; write D[3] = 1; }", "if (a) { x = read A[a]; ! } else { write A[a] = 1; write #[3] = 1; ! }"},
	} {
		p := mendSet(t, "proc p(a) { "+x.stmts+" } proc q(b) { y = read A[b]; write A[b] = 1; }")
		got, ok := impl.Mark(p, 0, 0)
		wantMended(t, x.stmts, got, ok, procText("p(a)", strings.ReplaceAll(x.want, "!", markText)), "proc q(b) { y = read A[b]; write A[b] = 1; }")
	}
}

// Which one's reads are marked, and which one's writes.
func TestMarkOneTowardsAnother(t *testing.T) {
	src := []string{"proc p() { x = read A[0]; y = read B[0]; }", "proc q() { x = read B[0]; write A[0] = 1; }", "proc r() { x = read A[0]; write B[0] = 1; }", "proc s() { x = read C[0]; }"}
	readA, readB, writeA, writeB := "x = read A[0]; !", "x = read B[0]; !", "write A[0] = 1; !", "write B[0] = 1; !"
	want := map[[2]int][2]string{
		{0, 1}: {"proc p() { " + readA + " y = read B[0]; }", "proc q() { x = read B[0]; " + writeA + " }"},
		{0, 2}: {"proc p() { x = read A[0]; y = read B[0]; ! }", "proc r() { x = read A[0]; " + writeB + " }"},
		{1, 2}: {"proc q() { " + readB + " write A[0] = 1; }", "proc r() { x = read A[0]; " + writeB + " }"},
		{2, 1}: {"proc r() { " + readA + " write B[0] = 1; }", "proc q() { x = read B[0]; " + writeA + " }"},
	}
	for a := range src {
		for b := range src {
			lines := slices.Clone(src)
			if s, found := want[[2]int{a, b}]; found {
				lines[a], lines[b] = strings.ReplaceAll(s[0], "!", markText), strings.ReplaceAll(s[1], "!", markText)
			}
			got, ok := impl.Mark(mustParse(t, strings.Join(src, " ")), a, b)
			wantMended(t, strconv.Itoa(a)+" towards "+strconv.Itoa(b), got, ok, lines...)
		}
	}
}

// All nodes, field by field.
func TestMarkNodes(t *testing.T) {
	p := mustParse(t, "proc p(a) { x = read B[a]; return x; } proc q() { write B[4] = 5; }")
	want := impl.Set{
		L: []impl.Node{
			varNode("a"), nodeOf(impl.NkRead, "x", 1, 0), numNode(1), numNode(1), nodeOf(impl.NkWrite, "", 4, 2, 3), varNode("x"), kidsNode(impl.NkReturn, 5), kidsNode(impl.NkBlock, 1, 4, 6),
			numNode(4), numNode(5), nodeOf(impl.NkWrite, "", 1, 8, 9), numNode(1), numNode(1), nodeOf(impl.NkWrite, "", 4, 11, 12), kidsNode(impl.NkBlock, 10, 13),
		},
		Procs: []impl.Proc{{Name: "p", Params: []string{"a"}, Body: 7}, {Name: "q", Body: 14}},
	}
	if got, ok := impl.Mark(p, 0, 1); !ok || !plainSet(got, want) {
		t.Errorf("%v, not %v", got, want)
	}
	want = impl.Set{
		L: []impl.Node{
			numNode(0), numNode(1), nodeOf(impl.NkWrite, "", 4, 0, 1), varNode("a"), nodeOf(impl.NkRead, "x", 1, 3), varNode("x"), kidsNode(impl.NkReturn, 5), kidsNode(impl.NkBlock, 2, 4, 6),
			numNode(0), numNode(1), nodeOf(impl.NkWrite, "", 4, 8, 9), numNode(4), numNode(5), nodeOf(impl.NkWrite, "", 1, 11, 12), kidsNode(impl.NkBlock, 10, 13),
		},
		Procs: []impl.Proc{{Name: "p", Params: []string{"a"}, Body: 7}, {Name: "q", Body: 14}},
	}
	if got, ok := impl.MarkAll(p); !ok || !plainSet(got, want) {
		t.Errorf("%v, not %v", got, want)
	}
}

// One of MarkAll is put ahead of each Body, whatever stands there, and nowhere else.
func TestMarkAll(t *testing.T) {
	mark := "write #[0] = 1;"
	for _, x := range []mendCase{
		{"", mark},
		{"x = read A[a];", mark + " x = read A[a];"},
		{"return a;", mark + " return a;"},
		{"if (a) { x = read A[a]; } else { }", mark + " if (a) { x = read A[a]; } else { }"},
		{"for i in 2 { write A[i] = 1; for j in 2 { } }", mark + " for i in 2 { write A[i] = 1; for j in 2 { } }"},
		// Also where there is one already, or another one.
		{"write D[0] = 1;", mark + " " + mark},
		{"write D[0] = 1; write D[0] = 1; x = read A[a];", mark + " " + mark + " " + mark + " x = read A[a];"},
		{"write D[1] = 1; x = read A[a]; write D[0] = 1;", mark + " write #[1] = 1; x = read A[a]; " + mark},
		{"write D[-3] = 1; write D[2] = 5; return 1;", mark + " write #[(-3)] = 1; write #[2] = 5; return 1;"},
		{"x = read A[a]; write A[a] = x; f0 = 1;", mark + " x = read A[a]; write A[a] = x; $0 = 1;"},
	} {
		for n := range impl.MaxProcs {
			var src, want []string
			for k := range impl.MaxProcs {
				head, stmts, marked := "p"+strconv.Itoa(k)+"(a)", "write A[a] = a;", mark+" write A[a] = a;"
				if k == n {
					stmts, marked = x.stmts, x.want
				}
				src, want = append(src, procText(head, stmts)), append(want, procText(head, marked))
			}
			got, ok := impl.MarkAll(mendSet(t, strings.Join(src, " ")))
			wantMended(t, x.stmts, got, ok, want...)
			if l := impl.VulnList(got); len(l) != 0 {
				t.Errorf("%s: vulnerable: %v", impl.SetText(got), l)
			}
			got, ok = impl.MarkAll(mendSet(t, src[n]))
			wantMended(t, x.stmts+" alone", got, ok, want[n])
		}
	}
}
