package tests

import (
	"math"
	"slices"
	"strconv"
	"strings"
	"testing"

	"loop.example/g00689/impl"
)

// wantOk asks whether a set may be written, and whether it may be run.
func wantOk(t *testing.T, what string, p impl.Set, source, target bool) {
	t.Helper()
	if got := impl.SourceOk(p); got != source {
		t.Errorf("%s: SourceOk is %v", what, got)
	}
	if got := impl.TargetOk(p); got != target {
		t.Errorf("%s: TargetOk is %v", what, got)
	}
}

// wantTree asks for the texts and counts of a tree set, whether it may be written and run or not.
func wantTree(t *testing.T, what string, p impl.Set) {
	t.Helper()
	if got := impl.SetText(p); got != bracketedSet(p) {
		t.Errorf("%s: SetText is %.200q", what, got)
	}
	for k := range p.Procs {
		if impl.StepBound(p, k) == -1 || impl.Stmts(p, k) != plainCount(p, k) {
			t.Errorf("%s: bound and count of procedure %d are %d and %d", what, k, impl.StepBound(p, k), impl.Stmts(p, k))
		}
	}
	for k, x := range p.L {
		if x.Kind <= impl.NkSame && impl.ExprText(p, k) != bracketed(p, k) {
			t.Errorf("%s: ExprText of node %d is %.200q", what, k, impl.ExprText(p, k))
		}
		if x.Kind > impl.NkSame && impl.ExprText(p, k) != "" {
			t.Errorf("%s: node %d is no expression, and has a text", what, k)
		}
	}
}

// wantNoTree asks for the fixed answer of each function.
func wantNoTree(t *testing.T, what string, p impl.Set) {
	t.Helper()
	wantOk(t, what, p, false, false)
	if s := impl.SetText(p); s != "" {
		t.Errorf("%s: SetText is %.200q", what, s)
	}
	for _, k := range []int{-1, 0, 1, 2, 3, 4, len(p.L) - 1, len(p.L), len(p.Procs) - 1, len(p.Procs)} {
		if impl.ExprText(p, k) != "" || impl.StepBound(p, k) != -1 || impl.Stmts(p, k) != -1 {
			t.Errorf("%s: number %d has text %.200q, bound %d, count %d", what, k, impl.ExprText(p, k), impl.StepBound(p, k), impl.Stmts(p, k))
		}
	}
}

// procsSet has so many empty procedures, no two of one name.
func procsSet(n int) impl.Set {
	var p impl.Set
	for k := range n {
		p.L = append(p.L, kidsNode(impl.NkBlock))
		p.Procs = append(p.Procs, impl.Proc{Name: "p" + strconv.Itoa(k), Body: k})
	}
	return p
}

// flatSet has so many nodes: aborts in one block.
func flatSet(n int) impl.Set {
	var nodes []impl.Node
	var kids []int
	for k := range n - 1 {
		nodes = append(nodes, kidsNode(impl.NkAbort))
		kids = append(kids, k)
	}
	return bodySet(append(nodes, kidsNode(impl.NkBlock, kids...))...)
}

func TestTreeOfTheMostNodes(t *testing.T) {
	for _, n := range []int{1, impl.MaxNodes, impl.MaxNodes + 1, impl.MaxTree - 1, impl.MaxTree} {
		wantTree(t, "a flat set of "+strconv.Itoa(n), flatSet(n))
		wantCount(t, flatSet(n), 0, n-1)
		wantBound(t, flatSet(n), 0, n)
	}
	wantNoTree(t, "a flat set of one more", flatSet(impl.MaxTree+1))
	wantNoTree(t, "a flat set of many more", flatSet(50*impl.MaxTree))
	sum := []impl.Node{numNode(1)}
	for len(sum) < impl.MaxTree-3 {
		sum = append(sum, varNode("x"), kidsNode(impl.NkAdd, len(sum)-1, len(sum)))
	}
	full := returnSet(append(sum, kidsNode(impl.NkNeg, len(sum)-1))...)
	over := returnSet(append(sum, kidsNode(impl.NkNeg, len(sum)-1), kidsNode(impl.NkNeg, len(sum)))...)
	if len(full.L) != impl.MaxTree || len(over.L) != impl.MaxTree+1 {
		t.Fatal(len(full.L), len(over.L))
	}
	wantOk(t, "a sum of the most nodes", full, false, true)
	wantBound(t, full, 0, 2)
	wantExprText(t, full, impl.MaxTree-3, bracketed(full, impl.MaxTree-3))
	wantNoTree(t, "a sum of one more", over)
}

func TestTreeOfTheMostProcedures(t *testing.T) {
	for _, n := range []int{1, impl.MaxProcs, impl.MaxNodes - 1, impl.MaxNodes} {
		wantTree(t, strconv.Itoa(n)+" procedures", procsSet(n))
	}
	wantNoTree(t, "one procedure more", procsSet(impl.MaxNodes+1))
	wantNoTree(t, "many procedures more", procsSet(4*impl.MaxNodes))
	wantTree(t, "no procedure", impl.Set{})
}

// textsSet spreads so many bytes over an S, a Name and two Params.
func textsSet(s, name, first, second int) impl.Set {
	p := bodySet(varNode(strings.Repeat("s", s)), kidsNode(impl.NkReturn, 0), kidsNode(impl.NkBlock, 1))
	p.Procs[0].Name = strings.Repeat("n", name)
	p.Procs[0].Params = []string{strings.Repeat("f", first), strings.Repeat("g", second)}
	return p
}

func TestTreeOfTheMostBytes(t *testing.T) {
	most := 4 * impl.MaxSrc
	for _, x := range [][4]int{{most, 0, 0, 0}, {0, most, 0, 0}, {0, 0, most, 0}, {0, 0, 0, most}, {most - 3, 1, 1, 1}, {1, most - 3, 1, 1}, {1, 1, 1, most - 3}, {most / 4, most / 4, most / 4, most / 4}, {most - 1, 0, 0, 0}, {0, 0, 0, 0}} {
		p := textsSet(x[0], x[1], x[2], x[3])
		wantTree(t, "bytes", p)
		wantOk(t, "bytes", p, false, true)
		for i := range x {
			more := x
			more[i] += most - (x[0] + x[1] + x[2] + x[3]) + 1
			wantNoTree(t, "a byte more", textsSet(more[0], more[1], more[2], more[3]))
		}
	}
	// An S counts also where the text does not tell it, and in each node and procedure.
	for _, x := range []struct {
		at int
		p  impl.Set
	}{{0, returnSet(numNode(1))}, {1, returnSet(numNode(1))}, {2, returnSet(numNode(1))}} {
		x.p.L[x.at].S = strings.Repeat("o", most-1)
		wantTree(t, "bytes that are not told", x.p)
		x.p.L[x.at].S += "o"
		wantNoTree(t, "a byte more that is not told", x.p)
	}
	spread := procsSet(40)
	for k := range spread.Procs {
		spread.L[k].S = strings.Repeat("s", 200)
		spread.Procs[k].Name = strings.Repeat("n", 200)
		spread.Procs[k].Params = []string{strings.Repeat("a", 100), "", strings.Repeat("b", 100)}
	}
	wantTree(t, "bytes of many", spread)
	spread.Procs[39].Params[1] = "c"
	wantNoTree(t, "a byte more of many", spread)
}

// There may be as many empty Params as there are.
func TestTreeOfManyParams(t *testing.T) {
	p := procsSet(2)
	p.Procs[1].Params = make([]string, 100000)
	wantTree(t, "many empty Params", p)
	wantOk(t, "many empty Params", p, false, false)
	p.Procs[1].Params[99999] = strings.Repeat("x", 4*impl.MaxSrc)
	wantNoTree(t, "many Params and too many bytes", p)
}

func TestOkNumberOfProcedures(t *testing.T) {
	wantOk(t, "none", impl.Set{}, false, false)
	for n := 1; n <= impl.MaxProcs+3; n++ {
		wantOk(t, strconv.Itoa(n)+" procedures", procsSet(n), n <= impl.MaxProcs, n <= impl.MaxProcs)
	}
	wantOk(t, "the most procedures of a tree set", procsSet(impl.MaxNodes), false, false)
}

func TestOkNumberOfParams(t *testing.T) {
	params := []string{"a", "b", "c", "d", "e"}
	for n := range len(params) + 1 {
		for k := range impl.MaxProcs {
			p := procsSet(impl.MaxProcs)
			p.Procs[k].Params = params[:n]
			wantOk(t, strconv.Itoa(n)+" Params", p, n <= impl.MaxParams, n <= impl.MaxParams)
		}
	}
}

// longProc is the text of a procedure of so many statements, some of them in blocks of others.
func longProc(name string, n int, inner string) string {
	switch inner {
	case "for":
		return "proc " + name + "() { for i in 1 { " + strings.Repeat("abort;", n-1) + " } }"
	case "if":
		return "proc " + name + "() { abort; if (1) { " + strings.Repeat("abort;", n-2) + " } }"
	case "else":
		return "proc " + name + "() { if (1) { abort; } else { if (2) { } else { " + strings.Repeat("abort;", n-4) + " } } abort; }"
	}
	return "proc " + name + "() { " + strings.Repeat("abort;", n) + " }"
}

func TestOkNumberOfStatements(t *testing.T) {
	for _, inner := range []string{"", "for", "if", "else"} {
		for _, n := range []int{impl.MaxStmts - 1, impl.MaxStmts, impl.MaxStmts + 1, 4 * impl.MaxStmts, 4*impl.MaxStmts + 1, 4*impl.MaxStmts + 2, 5 * impl.MaxStmts} {
			for _, s := range []string{
				longProc("p", n, inner),
				longProc("p", n, inner) + longProc("q", 7, "for"),
				longProc("p", 8, "if") + "proc q() { }" + longProc("r", 9, "") + longProc("s", n, inner),
			} {
				p := mustParse(t, s)
				wantOk(t, strconv.Itoa(n)+" statements "+inner, p, n <= impl.MaxStmts, n <= 4*impl.MaxStmts+1)
				wantCount(t, p, len(p.Procs)-1, plainCount(p, len(p.Procs)-1))
			}
		}
	}
	// The number is each procedure's own.
	var all string
	for _, name := range []string{"p", "q", "r", "s"} {
		all += longProc(name, impl.MaxStmts, "else")
	}
	wantOk(t, "the most statements of the most procedures", mustParse(t, all), true, true)
}

func TestOkNumberOfRounds(t *testing.T) {
	sets := []string{
		"proc p() { for i in 1 { } }",
		"proc p() { for i in 1 { abort; } abort; }",
		"proc p() { } proc q() { if (1) { } else { for i in 1 { for j in 1 { } } } } proc r() { for k in 1 { } }",
	}
	for _, s := range sets {
		for i, x := range mustParse(t, s).L {
			if x.Kind != impl.NkFor {
				continue
			}
			for _, n := range []int{math.MinInt, -100, -2, -1, 0, 1, 2, 3, impl.MaxTimes, impl.MaxTimes + 1, 100, 999999999, 1000000000, math.MaxInt} {
				p := mustParse(t, s)
				p.L[i].N = n
				ok := n >= 1 && n <= impl.MaxTimes
				wantOk(t, strconv.Itoa(n)+" rounds", p, ok, ok)
				wantTree(t, strconv.Itoa(n)+" rounds", p)
			}
		}
	}
}

func TestOkNumberOfSteps(t *testing.T) {
	long, middle, short := nestedLoops("x = 1;", 4, 4, 4), nestedLoops("x = 1;", 4, 4), nestedLoops("x = 1;", 4)
	full := strings.Repeat(long, 3) + short + short + nestedLoops("x = 1;", 3) + "abort;"
	for _, x := range []struct {
		stmts string
		steps int
	}{
		{strings.Replace(full, "abort;", "", 1), impl.MaxSteps - 1},
		{full, impl.MaxSteps},
		{full + "abort;", impl.MaxSteps + 1},
		{"if (1) { } else { " + strings.Replace(full, "abort;", "", 1) + "}", impl.MaxSteps},
		{"if (1) { " + full + "}", impl.MaxSteps + 1},
		{strings.Repeat(long, 12) + middle + middle + strings.Repeat(short, 3) + strings.Repeat("abort;", 6), 4*impl.MaxSteps + 9},
		{strings.Repeat(long, 12) + middle + middle + strings.Repeat(short, 3) + strings.Repeat("abort;", 7), 4*impl.MaxSteps + 10},
		{strings.Repeat(long, 12) + middle + middle + strings.Repeat(short, 3) + strings.Repeat("abort;", 8), 4*impl.MaxSteps + 11},
		{nestedLoops("x = 1;", 4, 4, 4, 4), 767},
		{nestedLoops("x = 1;", 4, 4, 4, 4, 4), 3071},
		{nestedLoops("x = 1;", slices.Repeat([]int{4}, 20)...), mostBound},
	} {
		for _, s := range []string{"proc p() { " + x.stmts + " }", "proc q() { " + short + " } proc p(a, b, c) { " + x.stmts + " }", "proc p() { " + x.stmts + " } proc q() { } proc r() { abort; }"} {
			p := mustParse(t, s)
			k := slices.IndexFunc(p.Procs, func(proc impl.Proc) bool { return proc.Name == "p" })
			wantBound(t, p, k, x.steps)
			if n := impl.Stmts(p, k); x.steps <= impl.MaxSteps+1 && n > impl.MaxStmts || n > 4*impl.MaxStmts+1 {
				t.Fatal("too many statements:", n)
			}
			wantOk(t, strconv.Itoa(x.steps)+" steps", p, x.steps <= impl.MaxSteps, x.steps <= 4*impl.MaxSteps+10)
		}
	}
}

func TestOkTables(t *testing.T) {
	src := "proc p() { x = read A[1]; write B[x] = 2; } proc q(a) { for i in 2 { if (a) { y = read C[i]; } else { write D[3] = a; } } }"
	for i, x := range mustParse(t, src).L {
		if x.Kind != impl.NkRead && x.Kind != impl.NkWrite {
			continue
		}
		for _, n := range []int{math.MinInt, -5, -2, -1, 0, 1, 2, 3, 4, 5, 6, 100, math.MaxInt} {
			p := mustParse(t, src)
			p.L[i].N = n
			named := n >= 0 && n <= 3
			wantOk(t, "table "+strconv.Itoa(n), p, named, named || x.Kind == impl.NkWrite && n == 4)
			wantTree(t, "table "+strconv.Itoa(n), p)
		}
	}
}

// A text of the set's own may be longer, or deeper, than Parse takes.
func TestOkSourceHasToBeReadBack(t *testing.T) {
	sum := func(n int) impl.Set { return mustParse(t, "proc p() { x = 1"+strings.Repeat(" + 1", n)+"; }") }
	for n := range 40 {
		// The block, the expression, and one for each bracket.
		wantOk(t, "a sum of "+strconv.Itoa(n)+" signs", sum(n), n+2 <= impl.MaxDeep, true)
	}
	signs := func(n int) impl.Set {
		return mustParse(t, "proc p() { x = "+strings.Repeat("-", n)+"1; }")
	}
	for n := range impl.MaxDeep - 1 {
		// Each sign is in a bracket of its own.
		wantOk(t, strconv.Itoa(n)+" signs", signs(n), 2*n+2 <= impl.MaxDeep, true)
	}
	for blocks := 1; blocks <= impl.MaxStmts; blocks++ {
		left := impl.MaxDeep - blocks - 1
		deep := func(n int) impl.Set {
			return mustParse(t, inBlocks(blocks, "x = y"+strings.Repeat(" * y", n)+";"))
		}
		wantOk(t, "brackets in "+strconv.Itoa(blocks)+" blocks", deep(left), true, true)
		wantOk(t, "one more in "+strconv.Itoa(blocks)+" blocks", deep(left+1), false, true)
	}
}

func TestOkSourceOfTheLongestText(t *testing.T) {
	full := func(terms int, last string) impl.Set {
		var b strings.Builder
		b.WriteString("proc p() {")
		for range 11 {
			b.WriteString(" write D[abcdefghijklmnopqrst] = abcdefghijklmnopqrst" + strings.Repeat(" - abcdefghijklmnopqrst", 19) + ";")
		}
		return mustParse(t, b.String()+" x = y"+strings.Repeat(" + z", terms)+"; return "+last+"; }")
	}
	lengths := map[int]bool{}
	for terms := range impl.MaxDeep - 1 {
		for last := "q"; len(last) <= 20; last += "q" {
			p := full(terms, last)
			n := len(impl.SetText(p))
			wantOk(t, strconv.Itoa(n)+" bytes", p, n <= impl.MaxSrc, true)
			lengths[n] = true
		}
	}
	if !lengths[impl.MaxSrc] || !lengths[impl.MaxSrc+1] {
		t.Error("no text met the limit exactly, or none passed it by one")
	}
}

// sumsSet has 19 statements of 40 nodes each, and one with a sum of so many numbers, with a sign ahead of it or not.
func sumsSet(last int, signed bool) impl.Set {
	var nodes []impl.Node
	var kids []int
	for i := range 20 {
		terms := 20
		if i == 19 {
			terms = last
		}
		nodes = append(nodes, numNode(1))
		for range terms - 1 {
			nodes = append(nodes, numNode(1), kidsNode(impl.NkAdd, len(nodes)-1, len(nodes)))
		}
		if signed && i == 19 {
			nodes = append(nodes, kidsNode(impl.NkNeg, len(nodes)-1))
		}
		kids = append(kids, len(nodes))
		nodes = append(nodes, nodeOf(impl.NkSet, "x", 0, len(nodes)-1))
	}
	return bodySet(append(nodes, kidsNode(impl.NkBlock, kids...))...)
}

// Parse gives no more nodes than MaxNodes: what has more may be run, and can't be written.
func TestOkSourceOfTheMostNodes(t *testing.T) {
	for _, x := range []struct {
		last   int
		signed bool
		nodes  int
	}{{19, false, impl.MaxNodes - 1}, {19, true, impl.MaxNodes}, {20, false, impl.MaxNodes + 1}, {20, true, impl.MaxNodes + 2}} {
		p := sumsSet(x.last, x.signed)
		if len(p.L) != x.nodes {
			t.Fatal(len(p.L))
		}
		wantOk(t, strconv.Itoa(x.nodes)+" nodes", p, x.nodes <= impl.MaxNodes, true)
	}
}
