package tests

import (
	"math"
	"strconv"
	"testing"

	"loop.example/g00689/impl"
)

// crossSrc has each edge from each procedure to each, so that whatever is refused has something to be silent about.
const crossSrc = "proc p(a, b) { x = read A[a + 1]; write A[x] = b; for i in 3 { } if (x) { } } proc q() { y = read A[0]; write A[1] = y; write A[0] = y; } proc r(c) { z = read A[c]; write A[z] = c; }"

// wantNoEdge asks for the fixed answers to a and b, of which at least one is no procedure, or the set may not be run.
func wantNoEdge(t *testing.T, what string, p impl.Set, a, b int) {
	t.Helper()
	if impl.Rw(p, a, b) || impl.Dep(p, a, b) || impl.Vuln(p, a, b) || impl.Reaches(p, a, b) {
		t.Errorf("%s: edges from %d to %d: %v, %v, %v, %v", what, a, b, impl.Rw(p, a, b), impl.Dep(p, a, b), impl.Vuln(p, a, b), impl.Reaches(p, a, b))
	}
}

// wantNoGraph asks for the fixed answers to a set that may not be run.
func wantNoGraph(t *testing.T, what string, p impl.Set) {
	t.Helper()
	numbers := []int{-1, 0, 1, 2, 3, 4, 5, len(p.Procs) - 1, len(p.Procs), math.MinInt, math.MaxInt}
	for _, a := range numbers {
		if l := impl.Accesses(p, a); len(l) != 0 {
			t.Errorf("%s: procedure %d has %v", what, a, l)
		}
		for _, b := range numbers {
			wantNoEdge(t, what, p, a, b)
		}
	}
	if d, v := impl.Dangers(p), impl.VulnList(p); len(d) != 0 || len(v) != 0 {
		t.Errorf("%s: dangers %v, vulnerable %v", what, d, v)
	}
}

func TestGraphOfARightOne(t *testing.T) {
	p := mustParse(t, crossSrc)
	all := "00 01 02 10 11 12 20 21 22"
	wantEdges(t, p, all+" / "+all+" / "+all+" / "+all, "000 001 002 010 011 012 020 021 022 100 101 102 110 111 112 120 121 122 200 201 202 210 211 212 220 221 222", "000 010 020 100 110 120 200 210 220")
	wantAccesses(t, p, 0, "read A[?]", "write A[?]")
	wantAccesses(t, p, 1, "read A[0]", "write A[1]", "write A[0]")
}

func TestGraphOfSetsThatMayNotBeRun(t *testing.T) {
	for i, how := range append(noTreeWays(), noTargetWays()...) {
		for _, src := range []string{crossSrc, wrongSrc} {
			p := mustParse(t, src)
			how(&p)
			if plainTargetOk(p) {
				t.Fatalf("way %d leaves a set that may be run: %v", i, p)
			}
			wantNoGraph(t, "way "+strconv.Itoa(i), p)
		}
	}
	most := 4*impl.MaxStmts + 1
	cross := mustParse(t, crossSrc)
	for what, p := range map[string]impl.Set{
		"the zero value":     {},
		"no procedure":       {L: []impl.Node{kidsNode(impl.NkBlock)}},
		"no node":            {Procs: []impl.Proc{{}}},
		"too many nodes":     signsSet(impl.MaxTree + 1),
		"too many steps":     joinedSets(cross, loopsSet(8, 4)),
		"too many loops":     joinedSets(cross, loopsSet(most+1, 1)),
		"too many rounds":    joinedSets(cross, stmtsSet(t, "for i in 5 { }")),
		"too few rounds":     joinedSets(stmtsSet(t, "for i in 0 { }"), cross),
		"another one's many": joinedSets(mustParse(t, longProc("q", most+1, "")), cross),
		"too many of them":   joinedSets(cross, cross),
		"many more of them":  joinedSets(cross, procsSet(300)),
		"a read of #":        joinedSets(cross, bodySet(numNode(0), nodeOf(impl.NkRead, "x", 4, 0), kidsNode(impl.NkBlock, 1))),
	} {
		wantNoGraph(t, what, p)
	}
}

// What is met exactly is accepted.
func TestGraphOfSetsThatMayJustBeRun(t *testing.T) {
	most := 4*impl.MaxStmts + 1
	for _, more := range []impl.Set{loopsSet(most, 1), stmtsSet(t, "for i in 4 { }"), mustParse(t, longProc("q", most, "")), procsSet(1)} {
		p := joinedSets(mustParse(t, crossSrc), more)
		if len(p.Procs) != impl.MaxProcs || len(impl.Dangers(p)) != 27 || len(impl.VulnList(p)) != 9 {
			t.Errorf("%d dangers of %.300s", len(impl.Dangers(p)), impl.SetText(p))
		}
		for k := range p.Procs {
			if impl.Dep(p, 3, k) || impl.Reaches(p, k, 3) != (k == 3) {
				t.Error("the last one is reached from", k)
			}
		}
	}
}

// crossProcs has so many procedures of crossSrc, from the first on and around.
func crossProcs(t *testing.T, n int) impl.Set {
	t.Helper()
	cross := mustParse(t, crossSrc)
	var p impl.Set
	for k := range n {
		p = joinedSets(p, onlyProc(cross, k%len(cross.Procs)))
	}
	return p
}

func TestGraphOfNoProcedure(t *testing.T) {
	for n := 1; n <= impl.MaxProcs; n++ {
		p := crossProcs(t, n)
		for _, k := range []int{math.MinInt, -5, -2, -1, n, n + 1, 4, 5, 64, 100, math.MaxInt} {
			if l := impl.Accesses(p, k); len(l) != 0 {
				t.Errorf("procedure %d of %d has %v", k, n, l)
			}
			wantNoEdge(t, "no procedure", p, k, k)
			for b := range n {
				wantNoEdge(t, "none ahead", p, k, b)
				wantNoEdge(t, "none behind", p, b, k)
			}
		}
		for a := range n {
			for b := range n {
				if !impl.Rw(p, a, b) || !impl.Dep(p, a, b) || !impl.Vuln(p, a, b) || !impl.Reaches(p, a, b) {
					t.Errorf("no edge from %d to %d of %d", a, b, n)
				}
			}
		}
		if d, v := len(impl.Dangers(p)), len(impl.VulnList(p)); d != n*n*n || v != n*n {
			t.Errorf("%d procedures have %d dangers, %d vulnerable", n, d, v)
		}
	}
	wantNoGraph(t, "one procedure too many", crossProcs(t, impl.MaxProcs+1))
}
