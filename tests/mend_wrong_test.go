package tests

import (
	"math"
	"strconv"
	"testing"

	"loop.example/g00689/impl"
)

func isNoSet(p impl.Set) bool {
	return len(p.L) == 0 && len(p.Procs) == 0
}

// wantNoPair asks for the fixed answers to a and b, of which at least one is no procedure, or the set may not be run.
func wantNoPair(t *testing.T, what string, p impl.Set, a, b int) {
	t.Helper()
	if q, ok := impl.Promote(p, a, b); ok || !isNoSet(q) {
		t.Errorf("%s: Promote of %d towards %d is %v, %v", what, a, b, q, ok)
	}
	if q, ok := impl.Mark(p, a, b); ok || !isNoSet(q) {
		t.Errorf("%s: Mark of %d towards %d is %v, %v", what, a, b, q, ok)
	}
}

// wantNoMend asks for the fixed answers to a set that may not be run.
func wantNoMend(t *testing.T, what string, p impl.Set) {
	t.Helper()
	numbers := []int{-1, 0, 1, 3, 4, len(p.Procs) - 1, len(p.Procs)}
	for _, a := range numbers {
		for _, b := range numbers {
			wantNoPair(t, what, p, a, b)
		}
	}
	if q, ok := impl.MarkAll(p); ok || !isNoSet(q) {
		t.Errorf("%s: MarkAll is %v, %v", what, q, ok)
	}
	wantNoRewrite(t, what, p)
}

// wantNoRewrite asks for the fixed answers to a set that may not be written.
func wantNoRewrite(t *testing.T, what string, p impl.Set) {
	t.Helper()
	for _, policy := range []int{impl.PoTargeted, impl.PoGlobal, -1, 2} {
		if q, l, ok := impl.Rewrite(p, policy); ok || !isNoSet(q) || len(l) != 0 {
			t.Errorf("%s: Rewrite under %d is %v, %v, %v", what, policy, q, l, ok)
		}
	}
}

func TestMendOfRightOnes(t *testing.T) {
	for n := 1; n <= impl.MaxProcs; n++ {
		p := crossProcs(t, n)
		for a := range n {
			for b := range n {
				promoted, ok := impl.Promote(p, a, b)
				marked, fine := impl.Mark(p, a, b)
				if !ok || !fine || len(promoted.L) <= len(p.L) || len(marked.L) <= len(p.L) {
					t.Errorf("%d towards %d of %d: %v, %v", a, b, n, ok, fine)
				}
			}
		}
	}
	for _, src := range []string{crossSrc, wrongSrc} {
		p := mustParse(t, src)
		_, l, ok := impl.Rewrite(p, impl.PoTargeted)
		_, all, fine := impl.Rewrite(p, impl.PoGlobal)
		if !ok || !fine || (len(l) > 0) != (src == crossSrc) || mendsText(all) != "A00" {
			t.Errorf("%s: %v, %v", src, l, all)
		}
	}
}

func TestMendOfSetsThatMayNotBeRun(t *testing.T) {
	for i, how := range append(noTreeWays(), noTargetWays()...) {
		for _, src := range []string{crossSrc, wrongSrc} {
			p := mustParse(t, src)
			how(&p)
			if plainTargetOk(p) {
				t.Fatalf("way %d leaves a set that may be run: %v", i, p)
			}
			wantNoMend(t, "way "+strconv.Itoa(i), p)
		}
	}
	most := 4*impl.MaxStmts + 1
	cross := mustParse(t, crossSrc)
	for what, p := range map[string]impl.Set{
		"the zero value":     {},
		"no procedure":       {L: []impl.Node{kidsNode(impl.NkBlock)}},
		"no node":            {Procs: []impl.Proc{{}}},
		"too many nodes":     signsSet(impl.MaxTree + 1),
		"too many steps":     joinedSets(cross, loopsSet(8, 4)),
		"too many loops":     joinedSets(cross, loopsSet(most+1, 1)),
		"too many rounds":    joinedSets(cross, stmtsSet(t, "for i in 5 { }")),
		"too few rounds":     joinedSets(stmtsSet(t, "for i in 0 { }"), cross),
		"another one's many": joinedSets(mustParse(t, longProc("q", most+1, "")), cross),
		"too many of them":   joinedSets(cross, cross),
		"many more of them":  joinedSets(cross, procsSet(300)),
		"a read of #":        joinedSets(cross, bodySet(numNode(0), nodeOf(impl.NkRead, "x", 4, 0), kidsNode(impl.NkBlock, 1))),
	} {
		wantNoMend(t, what, p)
	}
}

func TestMendOfNoProcedure(t *testing.T) {
	for n := 1; n <= impl.MaxProcs; n++ {
		p := crossProcs(t, n)
		for _, k := range []int{math.MinInt, -5, -2, -1, n, n + 1, 4, 5, 64, math.MaxInt} {
			wantNoPair(t, "no procedures", p, k, k)
			wantNoPair(t, "no procedures", p, k, -k-1)
			for b := range n {
				wantNoPair(t, "none ahead", p, k, b)
				wantNoPair(t, "none behind", p, b, k)
			}
		}
	}
}

// What may be run, but was never written.
func TestRewriteOfSetsThatMayNotBeWritten(t *testing.T) {
	cross := mustParse(t, crossSrc)
	renamed := copySet(cross)
	renamed.Procs[2].Name = "p"
	twice := copySet(cross)
	twice.Procs[0].Params[1] = "a"
	odd := copySet(cross)
	odd.L[0].N = 1
	wordy := copySet(cross)
	wordy.Procs[1].Name = "for"
	promoted, _ := impl.Promote(cross, 0, 1)
	marked, _ := impl.Mark(cross, 0, 1)
	all, _ := impl.MarkAll(cross)
	for what, p := range map[string]impl.Set{
		"a fresh name":           promoted,
		"a mark":                 marked,
		"marks of all":           all,
		"a Name that is twice":   renamed,
		"a Param that is twice":  twice,
		"an N that is not told":  odd,
		"a Name that is a word":  wordy,
		"another order":          turned(cross),
		"no signed number":       bodySet(numNode(-1), kidsNode(impl.NkReturn, 0), kidsNode(impl.NkBlock, 1)),
		"a $":                    mendSet(t, "proc p(f0) { return f0; }"),
		"a write of #":           conflictsOf(t, "proc p(a) { write D[a] = 1; }"),
		"too many statements":    joinedSets(mustParse(t, longProc("q", impl.MaxStmts+1, "")), cross),
		"too many steps":         mustParse(t, "proc p() { "+nestedLoops("abort; abort; abort;", 4, 4, 4)+nestedLoops("abort; abort; abort;", 4, 4, 4)+" }"),
		"too many nodes to read": signsSet(impl.MaxNodes + 1),
		"deeper than is read":    signsSet(impl.MaxDeep + 10),
	} {
		if !impl.TargetOk(p) || impl.SourceOk(p) {
			t.Errorf("%s: TargetOk %v, SourceOk %v", what, impl.TargetOk(p), impl.SourceOk(p))
		}
		wantNoRewrite(t, what, p)
		if _, ok := impl.MarkAll(p); !ok {
			t.Errorf("%s: MarkAll refuses", what)
		}
	}
	// What was rewritten is not rewritten again, unless nothing was changed.
	for _, policy := range []int{impl.PoTargeted, impl.PoGlobal} {
		once, _, _ := impl.Rewrite(cross, policy)
		wantNoRewrite(t, "once rewritten", once)
	}
	calm := mustParse(t, wrongSrc)
	once, _, _ := impl.Rewrite(calm, impl.PoTargeted)
	if again, l, ok := impl.Rewrite(once, impl.PoTargeted); !ok || len(l) != 0 || !plainSet(again, calm) {
		t.Error("once rewritten, without a mend:", again, l, ok)
	}
}

func TestRewriteUnderNoPolicy(t *testing.T) {
	for _, src := range []string{crossSrc, wrongSrc, "proc p() { }"} {
		p := mustParse(t, src)
		for _, policy := range []int{math.MinInt, -2, -1, 2, 3, 4, 1 << 32, math.MaxInt} {
			if q, l, ok := impl.Rewrite(p, policy); ok || !isNoSet(q) || len(l) != 0 {
				t.Errorf("%s under %d: %v, %v, %v", src, policy, q, l, ok)
			}
		}
	}
}
