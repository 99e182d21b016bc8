package tests

import (
	"math"
	"slices"
	"strings"
	"testing"

	"loop.example/g00689/impl"
)

// wrongRun is a run of wrongSrc's procedure r, which returns what it is given, with one thing done to the set.
func wrongRun(t *testing.T, how func(p *impl.Set)) serial {
	t.Helper()
	return serial{p: wrongly(t, how), k: 2, args: []int{5}, state: []impl.Row{row(1, 1, 1)}}
}

func TestSerialOfARightOne(t *testing.T) {
	wrongRun(t, func(p *impl.Set) {}).returns(t, 5, row(1, 1, 1))
}

// noTreeWays each make wrongSrc's set one that is no tree set.
func noTreeWays() []func(p *impl.Set) {
	return []func(p *impl.Set){
		func(p *impl.Set) { p.L[0].Kind = 99 },
		func(p *impl.Set) { p.L[0].Kind = -1 },
		func(p *impl.Set) { p.L[len(p.L)-1].Kind = 28 },
		func(p *impl.Set) { p.L[2].Kids[1] = 0 },
		func(p *impl.Set) { p.L[2].Kids[1] = -1 },
		func(p *impl.Set) { p.L[2].Kids[1] = 2 },
		func(p *impl.Set) { p.L[2].Kids[1] = math.MaxInt },
		func(p *impl.Set) { p.L[2].Kids = nil },
		func(p *impl.Set) { p.L[1].Kids = []int{0} },
		func(p *impl.Set) { p.L = append(p.L, kidsNode(impl.NkBlock)) },
		func(p *impl.Set) { p.L = p.L[:len(p.L)-1] },
		func(p *impl.Set) { p.L = nil },
		func(p *impl.Set) { p.Procs[0].Body = p.Procs[2].Body },
		func(p *impl.Set) { p.Procs[0].Body = -1 },
		func(p *impl.Set) { p.Procs[0].Body = 0 },
		func(p *impl.Set) { p.Procs[1].Name = strings.Repeat("n", 4*impl.MaxSrc) },
		func(p *impl.Set) { p.Procs = append(p.Procs, p.Procs[2]) },
	}
}

func TestSerialOfNoTree(t *testing.T) {
	for _, how := range noTreeWays() {
		s := wrongRun(t, how)
		if plainTree(s.p) {
			t.Errorf("a tree set: %v", s.p)
		}
		for k := -1; k <= len(s.p.Procs); k++ {
			for n := range 4 {
				serial{p: s.p, k: k, args: make([]int, n), state: s.state}.isRefused(t)
			}
		}
		s.isRefused(t)
	}
	serial{}.isRefused(t)
	serial{p: impl.Set{L: []impl.Node{kidsNode(impl.NkBlock)}}}.isRefused(t)
	serial{p: impl.Set{Procs: []impl.Proc{{}}}}.isRefused(t)
	serial{p: signsSet(impl.MaxTree + 1)}.isRefused(t)
}

func withTable(kind, table int) func(p *impl.Set) {
	return func(p *impl.Set) { p.L[slices.IndexFunc(p.L, isKind(kind))].N = table }
}

func withRounds(n int) func(p *impl.Set) {
	return func(p *impl.Set) { p.L[slices.IndexFunc(p.L, isKind(impl.NkFor))].N = n }
}

func withProcs(n int) func(p *impl.Set) {
	return func(p *impl.Set) {
		for len(p.Procs) < n {
			p.L = append(p.L, kidsNode(impl.NkBlock))
			p.Procs = append(p.Procs, impl.Proc{Name: "more", Body: len(p.L) - 1})
		}
	}
}

func withParams(n int) func(p *impl.Set) {
	return func(p *impl.Set) { p.Procs[1].Params = slices.Repeat([]string{"a"}, n) }
}

// noTargetWays each make wrongSrc's set a tree set that may not be run.
func noTargetWays() []func(p *impl.Set) {
	return []func(p *impl.Set){
		withTable(impl.NkRead, 4), withTable(impl.NkRead, 5), withTable(impl.NkRead, -1), withTable(impl.NkWrite, 5), withTable(impl.NkWrite, -1), withTable(impl.NkWrite, math.MaxInt),
		withRounds(0), withRounds(-1), withRounds(impl.MaxTimes + 1), withRounds(math.MinInt), withProcs(impl.MaxProcs + 1), withParams(impl.MaxParams + 1),
	}
}

// Also where the procedure that is to be run is not the one that TargetOk refuses.
func TestSerialOfWhatMayNotBeRun(t *testing.T) {
	for _, how := range noTargetWays() {
		s := wrongRun(t, how)
		if !plainTree(s.p) || plainTargetOk(s.p) {
			t.Errorf("no tree set, or one that may be run: %v", s.p)
		}
		s.isRefused(t)
	}
	for _, how := range []func(p *impl.Set){
		withTable(impl.NkRead, 0), withTable(impl.NkRead, 3), withTable(impl.NkWrite, 0), withTable(impl.NkWrite, 4), withRounds(1), withRounds(impl.MaxTimes), withProcs(impl.MaxProcs), withParams(impl.MaxParams), withParams(0),
	} {
		wrongRun(t, how).returns(t, 5, row(1, 1, 1))
	}
	// As many Params as args, and yet too many.
	serial{p: mustParse(t, "proc p(a, b, c, d) { return 1; }"), args: []int{1, 2, 3, 4}}.isRefused(t)
	serial{p: mustParse(t, "proc p() { for i in 5 { return 1; } }")}.isRefused(t)
	serial{p: mustParse(t, "proc p() { for i in 0 { return 1; } }")}.isRefused(t)
	serial{p: mustParse(t, "")}.isRefused(t)
}

func isKind(kind int) func(x impl.Node) bool {
	return func(x impl.Node) bool { return x.Kind == kind }
}

func TestSerialOfTooMuch(t *testing.T) {
	most := 4*impl.MaxStmts + 1
	serial{p: loopsSet(most, 1)}.returns(t, 0)
	serial{p: loopsSet(most+1, 1)}.isRefused(t)
	// Another procedure's statements count, too.
	serial{p: mustParse(t, longProc("p", most, "")+"proc q() { return 3; }"), k: 1}.returns(t, 3)
	serial{p: mustParse(t, longProc("p", most+1, "")+"proc q() { return 3; }"), k: 1}.isRefused(t)
	// As many steps as there may be, all of them taken, and one more.
	long, middle, short := nestedLoops("x = x + 1;", 4, 4, 4), nestedLoops("x = x + 1;", 4, 4), nestedLoops("x = x + 1;", 4)
	steps := strings.Repeat(long, 12) + middle + middle + strings.Repeat(short, 3) + strings.Repeat("x = x + 1;", 6)
	serial{p: stmtsSet(t, steps+"return x;")}.returns(t, 12*64+2*16+3*4+6)
	serial{p: stmtsSet(t, steps+"x = 5; return x;")}.isRefused(t)
}

func TestSerialOfNoProcedure(t *testing.T) {
	s := serial{p: mustParse(t, "proc p() { return 1; } proc q() { return 2; }")}
	for k, want := range []int{1, 2} {
		s.k = k
		s.returns(t, want)
	}
	for _, k := range []int{math.MinInt, -2, -1, 2, 3, 4, 100, math.MaxInt} {
		s.k = k
		s.isRefused(t)
	}
}

func TestSerialOfWrongArgs(t *testing.T) {
	p := mustParse(t, "proc p() { return 1; } proc q(a) { return 2; } proc r(a, b) { return 3; } proc s(a, a, a) { return 4; }")
	for k := range p.Procs {
		for n := range 8 {
			s := serial{p: p, k: k, args: make([]int, n), state: []impl.Row{row(0, 0, 1)}}
			if n == k {
				s.returns(t, k+1, row(0, 0, 1))
			} else {
				s.isRefused(t)
			}
		}
		serial{p: p, k: k, args: make([]int, 100000)}.isRefused(t)
	}
}

func TestSerialOfWrongRows(t *testing.T) {
	for _, l := range badRows() {
		for _, stmts := range []string{"", "return 1;", "abort;", "write A[0] = 1;", "x = read A[0]; return x;"} {
			alone(t, stmts, l...).isRefused(t)
		}
	}
	for _, l := range listsOf(2, someRows()) {
		if plainRowsOk(l) {
			alone(t, "return 8;", l...).returns(t, 8, l...)
			alone(t, "abort;", l...).aborts(t)
		} else {
			alone(t, "return 8;", l...).isRefused(t)
			alone(t, "abort;", l...).isRefused(t)
		}
	}
}
