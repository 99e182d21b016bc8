package tests

import (
	"math"
	"math/big"
	"slices"
	"strconv"
	"strings"
	"testing"

	"loop.example/g00689/impl"
)

const mostBound = 1000000

func wantBound(t *testing.T, p impl.Set, k, want int) {
	t.Helper()
	if got := impl.StepBound(p, k); got != want {
		t.Errorf("StepBound of %.200q and %d is %d, not %d", bracketedSet(p), k, got, want)
	}
}

func wantCount(t *testing.T, p impl.Set, k, want int) {
	t.Helper()
	if got := impl.Stmts(p, k); got != want {
		t.Errorf("Stmts of %.200q and %d is %d, not %d", bracketedSet(p), k, got, want)
	}
}

func TestBoundAndCountOfEachStatement(t *testing.T) {
	for _, x := range []struct {
		stmts        string
		bound, count int
	}{
		{"", 1, 0},
		{"x = 1;", 2, 1},
		{"x = (1 + 2) * -y;", 2, 1},
		{"x = read A[1 + 2];", 2, 1},
		{"write B[1] = -2;", 2, 1},
		{"abort;", 2, 1},
		{"return 3 < 4;", 2, 1},
		{"x = 1; y = read A[x]; write A[x] = y; abort; return y;", 6, 5},
		{"if (1) { }", 2, 1},
		{"if (1) { abort; }", 3, 2},
		{"if (1) { abort; abort; }", 4, 3},
		{"if (1) { } else { }", 2, 1},
		{"if (1) { } else { abort; }", 3, 2},
		{"if (1) { abort; } else { }", 3, 2},
		{"if (1) { abort; } else { abort; }", 3, 3},
		{"if (1) { abort; abort; abort; } else { abort; }", 5, 5},
		{"if (1) { abort; } else { abort; abort; abort; }", 5, 5},
		{"for i in 0 { }", 3, 1},
		{"for i in 0 { abort; }", 3, 2},
		{"for i in 1 { }", 4, 1},
		{"for i in 1 { abort; }", 5, 2},
		{"for i in 4 { }", 7, 1},
		{"for i in 4 { abort; }", 11, 2},
		{"for i in 3 { abort; abort; }", 12, 3},
		{"for i in 100 { abort; abort; }", 303, 3},
		{"for i in 2 { } for j in 3 { abort; } abort;", 4 + 8 + 2, 4},
	} {
		p := stmtsSet(t, x.stmts)
		wantBound(t, p, 0, x.bound)
		wantCount(t, p, 0, x.count)
	}
}

func TestBoundAndCountInBlocksInBlocks(t *testing.T) {
	for _, x := range []struct {
		stmts        string
		bound, count int
	}{
		{"for i in 2 { for j in 3 { } }", 1 + 2 + 2*(1+2+3), 2},
		{"for i in 2 { for j in 3 { abort; } abort; }", 1 + 2 + 2*(1+2+3*2+1), 4},
		{"for i in 4 { for j in 4 { for k in 4 { x = 1; } } }", 1 + 190, 4},
		{"if (1) { if (2) { abort; } else { abort; abort; } } else { abort; }", 1 + 1 + 1 + 2, 6},
		{"if (1) { for i in 3 { abort; } } else { for i in 2 { abort; abort; } }", 1 + 1 + 8, 6},
		{"for i in 3 { if (1) { abort; abort; } else { for j in 2 { abort; } } return 1; }", 1 + 2 + 3*(1+1+6+1), 7},
		{"if (1) { if (2) { if (3) { if (4) { x = 5; } } } }", 6, 5},
		{"x = 1; if (x) { y = 2; for i in 2 { z = 3; if (z) { } else { abort; } } } else { return 4; } w = 5;", 1 + 1 + 1 + 1 + 2 + 2*(1+1+1+1) + 1, 9},
	} {
		p := stmtsSet(t, x.stmts)
		wantBound(t, p, 0, x.bound)
		wantCount(t, p, 0, x.count)
	}
}

// Each procedure has its own, whichever way its nodes stand among the others'.
func TestBoundAndCountOfEachProcedure(t *testing.T) {
	p := mustParse(t, "proc a() { } proc b(x) { abort; abort; } proc c(x, y) { for i in 3 { abort; } } proc d() { if (1) { } } proc e() { abort; }")
	for k, want := range []struct{ bound, count int }{{1, 0}, {3, 2}, {9, 2}, {2, 1}, {2, 1}} {
		wantBound(t, p, k, want.bound)
		wantCount(t, p, k, want.count)
	}
	mixed := impl.Set{
		L:     []impl.Node{kidsNode(impl.NkAbort), kidsNode(impl.NkAbort), kidsNode(impl.NkAbort), kidsNode(impl.NkBlock, 2, 0), kidsNode(impl.NkBlock, 1)},
		Procs: []impl.Proc{{Name: "p", Body: 4}, {Name: "p", Body: 3}},
	}
	wantBound(t, mixed, 0, 2)
	wantBound(t, mixed, 1, 3)
	wantCount(t, mixed, 0, 1)
	wantCount(t, mixed, 1, 2)
}

func TestBoundAndCountOfNoProcedure(t *testing.T) {
	p := mustParse(t, "proc a() { abort; } proc b() { }")
	for _, k := range []int{-1, -2, 2, 3, math.MinInt, math.MaxInt} {
		wantBound(t, p, k, -1)
		wantCount(t, p, k, -1)
	}
	for _, k := range []int{0, -1, 1} {
		wantBound(t, impl.Set{}, k, -1)
		wantCount(t, impl.Set{}, k, -1)
	}
}

// loopSet has a loop of n rounds with so many statements in each, and behind it more statements.
func loopSet(n, inner, more int) impl.Set {
	var nodes []impl.Node
	var inside, all []int
	for k := range inner {
		nodes = append(nodes, kidsNode(impl.NkAbort))
		inside = append(inside, k)
	}
	nodes = append(nodes, kidsNode(impl.NkBlock, inside...), nodeOf(impl.NkFor, "i", n, inner))
	all = append(all, inner+1)
	for range more {
		all = append(all, len(nodes))
		nodes = append(nodes, kidsNode(impl.NkAbort))
	}
	return bodySet(append(nodes, kidsNode(impl.NkBlock, all...))...)
}

func TestBoundAtTheMost(t *testing.T) {
	for _, x := range []struct{ n, inner, more, want int }{
		{mostBound - 4, 0, 0, mostBound - 1}, {mostBound - 3, 0, 0, mostBound}, {mostBound - 2, 0, 0, mostBound}, {mostBound - 1, 0, 0, mostBound}, {mostBound, 0, 0, mostBound}, {mostBound + 1, 0, 0, mostBound},
		{mostBound - 6, 0, 2, mostBound - 1}, {mostBound - 6, 0, 3, mostBound}, {mostBound - 6, 0, 4, mostBound}, {mostBound - 6, 0, 400, mostBound},
		{499998, 1, 0, 999999}, {499998, 1, 1, mostBound}, {499998, 1, 2, mostBound}, {499999, 1, 0, mostBound}, {500000, 1, 0, mostBound},
		{333332, 2, 0, 999999}, {333332, 2, 1, mostBound}, {333332, 2, 2, mostBound}, {333333, 2, 0, mostBound},
		{260, 3845, 0, 999963}, {261, 3845, 0, mostBound},
	} {
		wantBound(t, loopSet(x.n, x.inner, x.more), 0, x.want)
	}
}

// No number of rounds comes round to a small bound.
func TestBoundOfGreatRounds(t *testing.T) {
	for _, n := range []int{mostBound * mostBound, 1 << 32, 1 << 60, 1<<60 + 1, 1 << 61, 1<<61 + 5, 1 << 62, 1<<62 + 1, math.MaxInt / 3, math.MaxInt/3 + 1, math.MaxInt/2 + 1, math.MaxInt - 2, math.MaxInt - 1, math.MaxInt} {
		for _, inner := range []int{0, 1, 2, 3, 7, 15, 1023} {
			wantBound(t, loopSet(n, inner, 0), 0, mostBound)
			wantBound(t, loopSet(n, inner, 3), 0, mostBound)
		}
	}
}

// nestedLoops are loops within one another, of these rounds from the outer to the inner one, with stmts in the inner one.
func nestedLoops(stmts string, rounds ...int) string {
	var b strings.Builder
	for _, n := range rounds {
		b.WriteString("for i in " + strconv.Itoa(n) + " { ")
	}
	return b.String() + stmts + strings.Repeat(" }", len(rounds))
}

func TestBoundOfRoundsInRounds(t *testing.T) {
	for _, x := range []struct {
		rounds []int
		stmts  string
		want   int
	}{
		{[]int{999, 997}, "", 1 + 2 + 999*(1+2+997)},
		{[]int{999, 997}, "abort;", mostBound},
		{[]int{1000, 996}, "", 1 + 2 + 1000*(1+2+996)},
		{[]int{1000, 997}, "", mostBound},
		{[]int{99, 99, 98}, "", 1 + 2 + 99*(1+2+99*(1+2+98))},
		{[]int{100, 100, 100}, "", mostBound},
		{[]int{0, 999999999}, "abort;", 3},
		{[]int{0, 999999999, 999999999}, "abort;", 3},
		{[]int{1, 0, 999999999, 999999999}, "abort;", 1 + 2 + 1 + 2},
		{[]int{999999999, 0}, "abort;", mostBound},
		{[]int{999999999, 999999999, 999999999, 999999999, 999999999}, "", mostBound},
		{[]int{65536, 65536, 65536, 65536}, "", mostBound},
		{[]int{1, 1, 1, 1, 1, 1, 1, 1, 1, 1, 1, 1, 1, 1, 1}, "", 1 + 15*3},
		{[]int{4, 4, 4, 4}, "x = 1;", 1 + 766},
		{slices.Repeat([]int{2}, 17), "", 1 + 4*(1<<17-1)},
		{slices.Repeat([]int{2}, 18), "", mostBound},
	} {
		wantBound(t, stmtsSet(t, nestedLoops(x.stmts, x.rounds...)), 0, x.want)
	}
	// What is beyond the most counts as the most in a choice and in a sum, too.
	wantBound(t, stmtsSet(t, "if (1) { abort; } else { "+nestedLoops("", 999999999)+" }"), 0, mostBound)
	wantBound(t, stmtsSet(t, "if (1) { "+nestedLoops("", 999999999)+" }"), 0, mostBound)
	wantBound(t, stmtsSet(t, strings.Repeat(nestedLoops("", 500000), 2)), 0, mostBound)
	wantBound(t, stmtsSet(t, strings.Repeat(nestedLoops("", 999999), 100)), 0, mostBound)
	wantBound(t, stmtsSet(t, nestedLoops("", 499995)+nestedLoops("", 499999)), 0, 999999)
	wantBound(t, stmtsSet(t, nestedLoops("", 499995)+nestedLoops("", 499999)+"abort;"), 0, mostBound)
}

// Below 0 the rule is reckoned as it stands: 2, and N times 1 and the block's.
func TestBoundOfRoundsBelowNone(t *testing.T) {
	for _, x := range []struct{ n, inner, more, want int }{
		{-1, 0, 0, 2}, {-1, 1, 0, 1}, {-1, 2, 0, 0}, {-1, 3, 0, -1}, {-2, 0, 0, 1}, {-3, 0, 0, 0}, {-3, 0, 5, 5}, {-10, 4, 2, -45},
		{-mostBound, 0, 0, 3 - mostBound}, {-2 * mostBound, 0, 0, 3 - 2*mostBound}, {math.MinInt, 0, 0, math.MinInt + 3}, {math.MinInt + 1, 0, 2, math.MinInt + 6},
	} {
		wantBound(t, loopSet(x.n, x.inner, x.more), 0, x.want)
		wantCount(t, loopSet(x.n, x.inner, x.more), 0, 1+x.inner+x.more)
	}
	nested := func(outer, inner int) impl.Set {
		return bodySet(kidsNode(impl.NkBlock), nodeOf(impl.NkFor, "j", inner, 0), kidsNode(impl.NkBlock, 1), nodeOf(impl.NkFor, "i", outer, 2), kidsNode(impl.NkBlock, 3))
	}
	for _, x := range []struct{ outer, inner, want int }{
		{2, -3, 3}, {2, -10, 1 + 2 + 2*(-7)}, {-2, -10, 1 + 2 + 14}, {-1000, -1000, 1 + 2 + 997000}, {-1000, -1003, mostBound},
		{-1002, -1001, mostBound - 1}, {-757, -1324, mostBound}, {-62, -16132, mostBound},
		{-mostBound, -mostBound, mostBound}, {math.MinInt, -4, mostBound}, {math.MinInt, math.MinInt, mostBound}, {-4, math.MinInt, mostBound}, {math.MaxInt, -3, 3}, {math.MinInt, -3, 3},
		// What is more than the most counts as the most, where it is taken away, too.
		{-1, mostBound - 3, 3 - mostBound}, {-1, mostBound - 2, 2 - mostBound}, {-1, mostBound, 2 - mostBound}, {-1, 2 * mostBound, 2 - mostBound}, {-1, math.MaxInt, 2 - mostBound},
	} {
		wantBound(t, nested(x.outer, x.inner), 0, x.want)
	}
	// Two great loops in one of -1 rounds.
	wantBound(t, bodySet(kidsNode(impl.NkBlock), nodeOf(impl.NkFor, "j", mostBound-9, 0), kidsNode(impl.NkBlock), nodeOf(impl.NkFor, "k", mostBound-9, 2),
		kidsNode(impl.NkBlock, 1, 3), nodeOf(impl.NkFor, "i", -1, 4), kidsNode(impl.NkBlock, 5)), 0, 2-mostBound)
}

// exactBound reckons without a greatest number.
func exactBound(p impl.Set, k int) *big.Int {
	x, sum := p.L[k], big.NewInt(1)
	switch x.Kind {
	case impl.NkBlock:
		sum.SetInt64(0)
		for _, kid := range x.Kids {
			sum.Add(sum, exactBound(p, kid))
		}
	case impl.NkIf:
		greater := big.NewInt(0)
		for _, kid := range x.Kids[1:] {
			if b := exactBound(p, kid); b.Cmp(greater) > 0 {
				greater = b
			}
		}
		sum.Add(sum, greater)
	case impl.NkFor:
		sum.Add(sum, exactBound(p, x.Kids[0]))
		sum.Mul(sum, big.NewInt(int64(x.N)))
		sum.Add(sum, big.NewInt(2))
	}
	return sum
}

// plainBound is that of a set whose rounds are not below 0.
func plainBound(p impl.Set, k int) int {
	all := exactBound(p, p.Procs[k].Body)
	all.Add(all, big.NewInt(1))
	if all.Cmp(big.NewInt(mostBound)) > 0 {
		return mostBound
	}
	return int(all.Int64())
}

// plainCount goes through the nodes once: each counts for the procedure above it.
func plainCount(p impl.Set, k int) int {
	under := make([]bool, len(p.L))
	under[p.Procs[k].Body] = true
	n := 0
	for i := len(p.L) - 1; i >= 0; i-- {
		if !under[i] {
			continue
		}
		if kind := p.L[i].Kind; kind >= impl.NkSet && kind < impl.NkBlock {
			n++
		}
		for _, kid := range p.L[i].Kids {
			under[kid] = true
		}
	}
	return n
}

func TestBoundAndCountOfDrawnSets(t *testing.T) {
	d := dice(55)
	rounds := []int{0, 1, 2, 3, 4, 5, 100, 70000, 999999999, 1 << 40, math.MaxInt}
	capped, plain := 0, 0
	for range 2000 {
		p, k := impl.Parse(joined(&d, drawWords(&d)))
		if k != -1 {
			continue
		}
		for i := range p.L {
			if p.L[i].Kind == impl.NkFor {
				p.L[i].N = rounds[d.below(len(rounds))]
			}
		}
		for k := range p.Procs {
			want := plainBound(p, k)
			wantBound(t, p, k, want)
			wantCount(t, p, k, plainCount(p, k))
			if want == mostBound {
				capped++
			} else {
				plain++
			}
		}
	}
	if capped < 200 || plain < 1000 {
		t.Error("too few of a kind:", capped, plain)
	}
}
