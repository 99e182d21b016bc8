package tests

import (
	"strings"
	"testing"

	"loop.example/g00689/impl"
)

// textCalls are all functions of the chapter, each asked at every number.
func textCalls() map[string]func(p impl.Set) {
	each := func(n int, ask func(k int)) {
		for k := -1; k <= n; k++ {
			ask(k)
		}
	}
	return map[string]func(p impl.Set){
		"ExprText":  func(p impl.Set) { each(len(p.L), func(k int) { impl.ExprText(p, k) }) },
		"SetText":   func(p impl.Set) { impl.SetText(p) },
		"SourceOk":  func(p impl.Set) { impl.SourceOk(p) },
		"TargetOk":  func(p impl.Set) { impl.TargetOk(p) },
		"StepBound": func(p impl.Set) { each(len(p.Procs), func(k int) { impl.StepBound(p, k) }) },
		"Stmts":     func(p impl.Set) { each(len(p.Procs), func(k int) { impl.Stmts(p, k) }) },
	}
}

func TestTextsWriteNowhere(t *testing.T) {
	good := mustParse(t, memorySrc)
	wrong := copySet(good)
	wrong.L[2].Kids[1] = 0
	owned := copySet(good)
	owned.Procs = owned.Procs[:1]
	for what, call := range textCalls() {
		for _, want := range []impl.Set{good, wrong, owned, sampleSet(), {}} {
			p := roomySet(want)
			call(p)
			if !plainSet(p, want) || !setSpareKept(p) {
				t.Errorf("%s writes into an argument: %v", what, p)
			}
		}
	}
}

// A text of one part alone is that part's text, in memory of its own.
func TestTextsAreNewMemory(t *testing.T) {
	long := strings.Repeat("x", 1000)
	p := returnSet(varNode(long))
	p.Procs[0].Name, p.Procs[0].Params = strings.Repeat("n", 500), []string{strings.Repeat("a", 400)}
	expr, text := impl.ExprText(p, 0), impl.SetText(p)
	if expr != long || !strings.Contains(text, long) {
		t.Fatal(expr, text)
	}
	for _, s := range []string{long, p.Procs[0].Name, p.Procs[0].Params[0]} {
		if inside(expr, s) || inside(s, expr) || inside(text, s) || inside(s, text) {
			t.Errorf("the memory of %.9q is shared", s)
		}
	}
	if again := impl.ExprText(p, 0); again != expr || inside(again, expr) {
		t.Error("two answers share their memory")
	}
}

// The same is told of a set that has been another one in between.
func TestTextsKeepNothing(t *testing.T) {
	p := mustParse(t, memorySrc)
	text, bound, count := impl.SetText(p), impl.StepBound(p, 0), impl.Stmts(p, 0)
	kept := copySet(p)
	fill(p.L, kidsNode(impl.NkAbort))
	wantNoTree(t, "a set of aborts", p)
	copy(p.L, kept.L)
	if impl.SetText(p) != text || impl.StepBound(p, 0) != bound || impl.Stmts(p, 0) != count || !impl.SourceOk(p) || !impl.TargetOk(p) {
		t.Error("a set is not told as it was:", impl.SetText(p))
	}
}
