package tests

import (
	"strconv"
	"strings"
	"testing"

	"loop.example/g00689/impl"
)

// wantFits asks whether a mend of a set that may be run is given; a set that is refused is the zero value.
func wantFits(t *testing.T, what string, p impl.Set, call func(p impl.Set) (impl.Set, bool), want bool) impl.Set {
	t.Helper()
	if !plainTargetOk(p) {
		t.Fatalf("%s: may not be run itself", what)
	}
	got, ok := call(p)
	if ok != want || ok && (!plainTargetOk(got) || !wholeTree(got)) || !ok && !isNoSet(got) {
		t.Errorf("%s: %v, not %v: %.300s", what, ok, want, impl.SetText(got))
	}
	return got
}

func promotes(a, b int) func(p impl.Set) (impl.Set, bool) {
	return func(p impl.Set) (impl.Set, bool) { return impl.Promote(p, a, b) }
}

func marks(a, b int) func(p impl.Set) (impl.Set, bool) {
	return func(p impl.Set) (impl.Set, bool) { return impl.Mark(p, a, b) }
}

const mostStmts = 4*impl.MaxStmts + 1
const mostSteps = 4*impl.MaxSteps + 10

func TestMendsOfTheMostStatements(t *testing.T) {
	read, write := "x = read A[a];", "write A[0] = 1;"
	src := func(p, q int) impl.Set {
		return mustParse(t, "proc p(a) { "+strings.Repeat("abort;", p)+read+" } proc q(a) { if (a) { "+strings.Repeat("a = 1;", q)+write+" } } proc r(a) { }")
	}
	for n := mostStmts - 7; n <= mostStmts; n++ {
		what := strconv.Itoa(n) + " statements"
		wantFits(t, what+", promoted", src(n-1, 0), promotes(0, 1), n+2 <= mostStmts)
		wantFits(t, what+", the other one promoted", src(n-1, 0), promotes(1, 0), true)
		wantFits(t, what+" of the other one, promoted", src(0, n-2), promotes(0, 1), true)
		wantFits(t, what+", marked", src(n-1, 0), marks(0, 1), n+1 <= mostStmts)
		wantFits(t, what+" of the other one, marked", src(0, n-2), marks(0, 1), n+1 <= mostStmts)
		wantFits(t, what+", nothing marked", src(n-1, n-2), marks(1, 0), true)
		wantFits(t, what+", nothing promoted", src(n-1, n-2), promotes(2, 1), true)
		wantFits(t, what+", marked for all", src(n-1, 0), impl.MarkAll, n+1 <= mostStmts)
		wantFits(t, what+" of the other one, marked for all", src(0, n-2), impl.MarkAll, n+1 <= mostStmts)
		two := mustParse(t, "proc p(a) { "+strings.Repeat("abort;", n-3)+read+write+read+" }")
		wantFits(t, what+", two promoted", two, promotes(0, 0), n+4 <= mostStmts)
		wantFits(t, what+", three marked", two, marks(0, 0), n+3 <= mostStmts)
	}
	whole := mustParse(t, "proc p(a) { "+strings.Repeat(read, 32)+" } proc q() { "+write+" }")
	if got := wantFits(t, "many reads", whole, promotes(0, 1), true); impl.Stmts(got, 0) != 96 {
		t.Error("not each one is promoted:", impl.Stmts(got, 0))
	}
	wantFits(t, "a read more", mustParse(t, "proc p(a) { "+strings.Repeat(read, 33)+" } proc q() { "+write+" }"), promotes(0, 1), false)
	wantFits(t, "many reads", mustParse(t, "proc p(a) { abort; "+strings.Repeat(read, 48)+" } proc q() { "+write+" }"), marks(0, 1), true)
	wantFits(t, "a read more", mustParse(t, "proc p(a) { "+strings.Repeat(read, 49)+" } proc q() { "+write+" }"), marks(0, 1), false)
}

// boundSet has a procedure p with these statements that may take so many steps, and a q that writes.
func boundSet(t *testing.T, steps int, stmts string) impl.Set {
	t.Helper()
	src := func(more int) string {
		loops := nestedLoops(strings.Repeat("b = 1;", 7), 4, 4, 4, 4) + strings.Repeat(nestedLoops(strings.Repeat("b = 1;", 6), 4), more/30)
		return "proc p(a) { " + loops + stmts + strings.Repeat("b = 1;", more%30) + " } proc q(a) { write A[a] = 1; }"
	}
	p := mustParse(t, src(steps-impl.StepBound(mustParse(t, src(0)), 0)))
	if impl.StepBound(p, 0) != steps {
		t.Fatal("not so many steps:", impl.StepBound(p, 0), steps)
	}
	return p
}

func TestMendsOfTheMostSteps(t *testing.T) {
	for more, stmts := range map[int]string{1: "x = read A[a];", 4: "for i in 4 { x = read A[i]; }", 16: "for i in 4 { for j in 4 { x = read A[i]; } }", 0: "if (a) { x = read A[a]; } else { b = 1; b = 1; b = 1; b = 1; }"} {
		for n := mostSteps - 2*more - 2; n <= mostSteps; n++ {
			p, what := boundSet(t, n, stmts), strconv.Itoa(n)+" steps with "+stmts
			if got := wantFits(t, what, p, promotes(0, 1), n+2*more <= mostSteps); len(got.L) > 0 && impl.StepBound(got, 0) != n+2*more {
				t.Errorf("%s: promoted they are %d", what, impl.StepBound(got, 0))
			}
			if got := wantFits(t, what, p, marks(0, 1), n+more <= mostSteps); len(got.L) > 0 && impl.StepBound(got, 0) != n+more {
				t.Errorf("%s: marked they are %d", what, impl.StepBound(got, 0))
			}
			wantFits(t, what, p, impl.MarkAll, n+1 <= mostSteps)
			wantFits(t, what, p, promotes(1, 0), true)
		}
	}
}

func TestMendsOfTheMostNodes(t *testing.T) {
	pair := mustParse(t, "proc p() { x = read A[0]; } proc q() { write A[0] = 1; }")
	for n := impl.MaxTree - 11; n <= impl.MaxTree; n++ {
		what := strconv.Itoa(n) + " nodes"
		for _, p := range []impl.Set{joinedSets(pair, signsSet(n-len(pair.L))), turned(joinedSets(signsSet(n-len(pair.L)), pair))} {
			a := 0
			if p.Procs[1].Name == "p" {
				a = 1
			}
			wantFits(t, what+", promoted", p, promotes(a, a+1), n+5 <= impl.MaxTree)
			wantFits(t, what+", marked", p, marks(a, a+1), n+6 <= impl.MaxTree)
			wantFits(t, what+", marked for all", p, impl.MarkAll, n+9 <= impl.MaxTree)
			wantFits(t, what+", nothing promoted", p, promotes(a+1, a), true)
			wantFits(t, what+", nothing marked", p, marks(a+1, a), true)
		}
	}
}

func textBytes(p impl.Set) int {
	n := 0
	for _, x := range p.L {
		n += len(x.S)
	}
	for _, proc := range p.Procs {
		n += len(proc.Name) + len(strings.Join(proc.Params, ""))
	}
	return n
}

// A fresh name stands three times, and the name that is read once more.
func TestMendsOfTheMostBytes(t *testing.T) {
	for reads, more := range map[string]int{
		"x = read A[a];": 3*2 + 1, "abcdefghijklmnopqrst = read A[a];": 3*2 + 20, "abc = read A[a]; x = read A[a];": 2*3*2 + 4,
		strings.Repeat("x = read A[a];", 11): 10*3*2 + 3*3 + 11, "f0 = read A[a];": 3*2 + 2, "f0 = f1 + f2 + f3 + f4 + f5 + f6 + f7 + f8 + f9; x = read A[f9];": 3*3 + 1,
	} {
		p := mendSet(t, "proc p(a) { "+reads+" } proc q(b) { write A[b] = 1; }")
		for total := 4*impl.MaxSrc - more - 2; total <= 4*impl.MaxSrc; total++ {
			full := joinedSets(p, returnSet(varNode(strings.Repeat("s", total-textBytes(p)-1))))
			if textBytes(full) != total {
				t.Fatal(textBytes(full), total)
			}
			what := strconv.Itoa(total) + " bytes with " + reads
			if got := wantFits(t, what, full, promotes(0, 1), total+more <= 4*impl.MaxSrc); len(got.L) > 0 && textBytes(got) != total+more {
				t.Errorf("%s: promoted they are %d", what, textBytes(got))
			}
		}
		full := joinedSets(p, returnSet(varNode(strings.Repeat("s", 4*impl.MaxSrc-textBytes(p)-1))))
		if textBytes(full) != 4*impl.MaxSrc {
			t.Fatal(textBytes(full))
		}
		wantFits(t, reads, full, marks(0, 1), true)
		wantFits(t, reads, full, impl.MarkAll, true)
		wantFits(t, reads, full, promotes(1, 0), true)
	}
}

// A key as deep as may be, and blocks within blocks as many as may be.
func TestMendsOfDeepSets(t *testing.T) {
	nodes := []impl.Node{varNode("a")}
	for len(nodes) < impl.MaxTree-20 {
		nodes = append(nodes, kidsNode(impl.NkNeg, len(nodes)-1))
	}
	read := append(nodes, nodeOf(impl.NkRead, "x", 0, len(nodes)-1))
	deep := joinedSets(bodySet(append(read, kidsNode(impl.NkBlock, len(read)-1))...), mustParse(t, "proc q() { write A[0] = 1; }"))
	got := wantFits(t, "a deep key", deep, promotes(0, 1), true)
	at := len(nodes)
	if got.L[at].Kind != impl.NkSet || got.L[at].Kids[0] != at-1 || got.L[at+2].Kind != impl.NkRead || len(got.L) != len(deep.L)+5 {
		t.Error("not as it was:", got.L[at:])
	}
	wantFits(t, "a deep key", deep, marks(0, 1), true)
	wantFits(t, "a deep key", deep, impl.MarkAll, true)
	loops := mostStmts - 3
	inner := []impl.Node{varNode("i"), nodeOf(impl.NkRead, "x", 0, 0), kidsNode(impl.NkBlock, 1)}
	for range loops {
		inner = append(inner, nodeOf(impl.NkFor, "i", 1, len(inner)-1), kidsNode(impl.NkBlock, len(inner)))
	}
	deep = joinedSets(bodySet(inner...), mustParse(t, "proc q() { write A[0] = 1; }"))
	wantMended(t, "deep loops", wantFits(t, "deep loops", deep, promotes(0, 1), true), true,
		"proc p() { "+strings.Repeat("for i in 1 { ", loops)+"$0 = i; x = read A[$0]; write A[$0] = x; "+strings.Repeat("} ", loops)+"}", "proc q() { write A[0] = 1; }")
	wantMended(t, "deep loops", wantFits(t, "deep loops", deep, marks(0, 1), true), true,
		"proc p() { "+strings.Repeat("for i in 1 { ", loops)+"x = read A[i]; write #[1] = 1; "+strings.Repeat("} ", loops)+"}", "proc q() { write A[0] = 1; write #[1] = 1; }")
}

// As many procedures and Params as may be.
func TestMendsOfTheMostProcedures(t *testing.T) {
	for n := 1; n <= impl.MaxProcs; n++ {
		p := procsSet(n)
		for k := range p.Procs {
			p.Procs[k].Params = []string{"a", "b", "a"}[:min(impl.MaxParams, k+1)]
		}
		for what, call := range map[string]func(p impl.Set) (impl.Set, bool){"promoted": promotes(0, n-1), "marked": marks(n-1, 0), "marked for all": impl.MarkAll} {
			got := wantFits(t, what, p, call, true)
			if len(got.Procs) != n {
				t.Fatalf("%s: %v", what, got)
			}
			for k, proc := range got.Procs {
				if proc.Name != p.Procs[k].Name || strings.Join(proc.Params, ",") != strings.Join(p.Procs[k].Params, ",") {
					t.Errorf("%s: procedure %d is %v", what, k, proc)
				}
			}
		}
	}
}
