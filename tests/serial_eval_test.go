package tests

import (
	"math"
	"math/big"
	"slices"
	"strings"
	"testing"

	"loop.example/g00689/impl"
)

// cutTo64 is what is left of a number in 64 bits.
func cutTo64(n *big.Int) int {
	ones := new(big.Int).SetUint64(math.MaxUint64)
	return int(new(big.Int).And(n, ones).Uint64())
}

// plainReckon reckons without a greatest number, and cuts off in the end.
func plainReckon(kind, left, right int) (int, bool) {
	a, b, n := big.NewInt(int64(left)), big.NewInt(int64(right)), new(big.Int)
	switch kind {
	case impl.NkAdd:
		n.Add(a, b)
	case impl.NkSub:
		n.Sub(a, b)
	case impl.NkMul:
		n.Mul(a, b)
	case impl.NkLess:
		n.SetInt64(int64(max(-a.Cmp(b), 0)))
	case impl.NkSame:
		n.SetInt64(int64(1 - a.CmpAbs(b)*a.CmpAbs(b)))
		if a.Sign() != b.Sign() {
			n.SetInt64(0)
		}
	default:
		if b.Sign() == 0 {
			return 0, false
		}
		rest := new(big.Int)
		n.QuoRem(a, b, rest)
		if kind == impl.NkRest {
			n = rest
		}
	}
	return cutTo64(n), true
}

func plainEval(p impl.Set, k int, of func(name string) int) (int, bool) {
	x := p.L[k]
	var vals []int
	for _, kid := range x.Kids {
		val, ok := plainEval(p, kid, of)
		if !ok {
			return 0, false
		}
		vals = append(vals, val)
	}
	switch x.Kind {
	case impl.NkNum:
		return x.N, true
	case impl.NkVar:
		return of(x.S), true
	case impl.NkNeg:
		return plainReckon(impl.NkSub, 0, vals[0])
	}
	return plainReckon(x.Kind, vals[0], vals[1])
}

func wantEval(t *testing.T, p impl.Set, k int, l []impl.Var, want int) {
	t.Helper()
	if got, ok := impl.Eval(p, k, l); !ok || got != want {
		t.Errorf("Eval of %.200s with %.200v is %d, %v, not %d", impl.ExprText(p, k), l, got, ok, want)
	}
}

func wantNothing(t *testing.T, what string, p impl.Set, k int, l []impl.Var) {
	t.Helper()
	if got, ok := impl.Eval(p, k, l); ok || got != 0 {
		t.Errorf("%s: Eval of node %d is %d, %v", what, k, got, ok)
	}
}

// exprSet has a procedure that returns this expression, whose node is told.
func exprSet(t *testing.T, expr string) (impl.Set, int) {
	t.Helper()
	p := stmtsSet(t, "return "+expr+";")
	return p, len(p.L) - 3
}

var evalVars = []impl.Var{{Name: "a", Val: 7}, {Name: "b", Val: -2}, {Name: "c", Val: 0}, {Name: "m", Val: math.MinInt}, {Name: "n", Val: math.MaxInt}}

func TestEvalOfEachKind(t *testing.T) {
	for expr, want := range map[string]int{
		"0": 0, "7": 7, "999999999": 999999999, "a": 7, "b": -2, "c": 0, "m": math.MinInt, "q": 0,
		"-a": -7, "-b": 2, "-c": 0, "--a": 7, "-q": 0,
		"a + b": 5, "a - b": 9, "b - a": -9, "a * b": -14, "a / 2": 3, "a % 4": 3,
		"a < 8": 1, "a < 7": 0, "a < 6": 0, "b < c": 1, "c < b": 0, "a == 7": 1, "a == 8": 0, "c == q": 1, "b == 2": 0,
		"1 - 2 - 3": -4, "1 - (2 - 3)": 2, "100 / 10 / 5": 2, "100 / (10 / 5)": 50, "2 + 3 * 4": 14, "(2 + 3) * 4": 20,
		"17 % 10 % 4": 3, "17 % (10 % 4)": 1, "-a + 1": -6, "-(a + 1)": -8, "(a < 8) + (b < 0) + (1 == 1)": 3, "(a < 8) == (b < 0)": 1,
	} {
		p, k := exprSet(t, expr)
		wantEval(t, p, k, evalVars, want)
	}
}

func TestEvalWraps(t *testing.T) {
	for expr, want := range map[string]int{
		"n + 1": math.MinInt, "n + n": -2, "m + m": 0, "m + n": -1, "m - 1": math.MaxInt, "n - m": -1, "m - n": 1, "0 - m": math.MinInt,
		"-m": math.MinInt, "-n": math.MinInt + 1, "n * 2": -2, "m * 2": 0, "m * m": 0, "n * n": 1, "m * n": math.MinInt, "m * -1": math.MinInt, "n * -1": math.MinInt + 1,
		"m < n": 1, "n < m": 0, "m < m": 0, "m == m": 1, "m == n": 0, "n + 1 == m": 1, "n + 1 < n": 1, "-m < 0": 1,
	} {
		p, k := exprSet(t, expr)
		wantEval(t, p, k, evalVars, want)
	}
}

func TestEvalDivides(t *testing.T) {
	for expr, want := range map[string]int{
		"7 / 2": 3, "-7 / 2": -3, "7 / -2": -3, "-7 / -2": 3, "7 % 2": 1, "-7 % 2": -1, "7 % -2": 1, "-7 % -2": -1,
		"6 / 3": 2, "-6 / 3": -2, "-6 % 3": 0, "6 % -3": 0, "1 / 2": 0, "-1 / 2": 0, "1 / -2": 0, "-1 % 2": -1, "1 % -2": 1, "0 / 5": 0, "0 % 5": 0, "0 / -5": 0,
		"m / -1": math.MinInt, "m % -1": 0, "m / 1": math.MinInt, "m % 1": 0, "m / m": 1, "m % m": 0, "m / 2": math.MinInt / 2, "m / n": -1, "m % n": -1, "n / m": 0, "n % m": math.MaxInt,
		"n / -1": math.MinInt + 1, "n % -1": 0, "m / -2": 1 << 62, "(m + 1) / -1": math.MaxInt, "m / -1 % 10": -8,
	} {
		p, k := exprSet(t, expr)
		wantEval(t, p, k, evalVars, want)
	}
}

// All numbers at the edges against each other, as numbers and as variables.
func TestEvalAtTheEdges(t *testing.T) {
	edges := []int{math.MinInt, math.MinInt + 1, math.MinInt / 2, -1 << 32, -10, -3, -2, -1, 0, 1, 2, 3, 10, 1 << 31, 1 << 32, 3037000500, math.MaxInt / 2, math.MaxInt - 1, math.MaxInt}
	nothing := 0
	for kind := impl.NkAdd; kind <= impl.NkSame; kind++ {
		for _, a := range edges {
			for _, b := range edges {
				numbers := returnSet(numNode(a), numNode(b), kidsNode(kind, 0, 1))
				vars := returnSet(varNode("a"), varNode("b"), kidsNode(kind, 0, 1))
				l := []impl.Var{{Name: "a", Val: a}, {Name: "b", Val: b}}
				want, ok := plainReckon(kind, a, b)
				if !ok {
					nothing++
					wantNothing(t, "numbers", numbers, 2, nil)
					wantNothing(t, "variables", vars, 2, l)
					continue
				}
				wantEval(t, numbers, 2, nil, want)
				wantEval(t, vars, 2, l, want)
			}
		}
	}
	if nothing != 2*len(edges) {
		t.Error("so many came to nothing:", nothing)
	}
	for _, a := range edges {
		want, _ := plainReckon(impl.NkSub, 0, a)
		wantEval(t, returnSet(numNode(a)), 0, nil, a)
		wantEval(t, returnSet(numNode(a), kidsNode(impl.NkNeg, 0)), 1, nil, want)
	}
}

// Which kid is the first one is said by Kids, not by the order of the nodes.
func TestEvalTakesKidsFromTheLeft(t *testing.T) {
	for kind, want := range map[int]int{impl.NkSub: 5, impl.NkDiv: 3, impl.NkRest: 1, impl.NkLess: 0} {
		wantEval(t, returnSet(numNode(7), numNode(2), kidsNode(kind, 0, 1)), 2, nil, want)
		wantEval(t, returnSet(numNode(2), numNode(7), kidsNode(kind, 1, 0)), 2, nil, want)
	}
	wantNothing(t, "the second one is 0", returnSet(numNode(0), numNode(7), kidsNode(impl.NkDiv, 1, 0)), 2, nil)
	wantEval(t, returnSet(numNode(7), numNode(0), kidsNode(impl.NkDiv, 1, 0)), 2, nil, 0)
}

func TestEvalOfADivisor0(t *testing.T) {
	for _, expr := range []string{"1 / 0", "1 % 0", "0 / 0", "0 % 0", "m / 0", "-1 % 0", "a / c", "a % c", "a / q", "a / (a - 7)", "a % (b + 2)", "1 / (1 < 0)", "1 / (1 == 2)", "1 / (m * 2)", "1 / (1 / 2)", "1 % (4 % 2)"} {
		p, k := exprSet(t, expr)
		wantNothing(t, expr, p, k, evalVars)
		for _, around := range []string{"-(@)", "--(@)", "0 * (@)", "(@) * 0", "1 + (@)", "(@) + 1", "1 - (@)", "(@) - 1", "(@) / 2", "0 / (@)", "2 % (@)", "(@) % 2", "(@) < 1", "1 < (@)", "(@) == (@)",
			"c * (1 + (2 - (-(3 * (@)))))", "((((@) + 1) * 2) / 3) % 4", "(1 < (@)) == 0", "(1 / 0) + (@)", "(@) / 0"} {
			whole := strings.ReplaceAll(around, "@", expr)
			p, k := exprSet(t, whole)
			wantNothing(t, whole, p, k, evalVars)
		}
	}
	// What stands beside it in the set does not matter.
	p := stmtsSet(t, "x = 1 / 0; y = 8 / 2; z = 1 % 0;")
	wantNothing(t, "the first one", p, 2, nil)
	wantEval(t, p, 0, nil, 1)
	wantEval(t, p, 1, nil, 0)
	wantEval(t, p, 6, nil, 4)
	wantNothing(t, "the last one", p, 10, nil)
}

// The list is taken as VarOf takes it, ascending or not.
func TestEvalOfAnyVariables(t *testing.T) {
	l := []impl.Var{{Name: "z", Val: 1}, {Name: "a", Val: 2}, {Name: "z", Val: 30}, {Name: "a", Val: 40}, {Name: "", Val: 5}, {Name: "\xff", Val: 6}, {Name: "$0", Val: 7}, {Name: "c"}, {Name: "c", Val: 8}}
	for s, want := range map[string]int{"z": 1, "a": 2, "": 5, "\xff": 6, "$0": 7, "c": 0, "b": 0, "A": 0, "aa": 0, "\xfe": 0} {
		wantEval(t, returnSet(varNode(s)), 0, l, want)
		wantEval(t, returnSet(varNode(s), numNode(100), kidsNode(impl.NkAdd, 0, 1)), 2, l, 100+want)
		wantEval(t, returnSet(varNode(s)), 0, nil, 0)
	}
	for _, l := range listsOf(3, someVars()) {
		for _, s := range varNames {
			wantEval(t, returnSet(varNode(s)), 0, l, plainVarOf(l, s))
		}
	}
}

// Of a node only what its Kind asks for counts.
func TestEvalLeavesOutTheRest(t *testing.T) {
	l := []impl.Var{{Name: "", Val: 50}, {Name: "odd", Val: 60}, {Name: "x", Val: 4}}
	wantEval(t, returnSet(nodeOf(impl.NkNum, "odd", 3)), 0, l, 3)
	wantEval(t, returnSet(nodeOf(impl.NkVar, "x", 99)), 0, l, 4)
	wantEval(t, returnSet(varNode("x"), nodeOf(impl.NkNeg, "odd", 99, 0)), 1, l, -4)
	wantEval(t, returnSet(varNode("x"), numNode(1), nodeOf(impl.NkSub, "odd", 99, 0, 1)), 2, l, 3)
}

func TestEvalOfEachNode(t *testing.T) {
	p := mustParse(t, wrongSrc)
	l := []impl.Var{{Name: "a", Val: 5}, {Name: "b", Val: 9}, {Name: "x", Val: -3}, {Name: "y", Val: -3}}
	told := 0
	for k, x := range p.L {
		if x.Kind > impl.NkSame {
			wantNothing(t, "a node that is no expression", p, k, l)
			continue
		}
		want, ok := plainEval(p, k, func(s string) int { return plainVarOf(l, s) })
		if !ok {
			t.Fatal(k)
		}
		told++
		wantEval(t, p, k, l, want)
	}
	if told < 15 {
		t.Error("too few expressions:", told)
	}
	for _, k := range []int{math.MinInt, -2, -1, len(p.L), len(p.L) + 1, 100000, math.MaxInt} {
		wantNothing(t, "no node", p, k, l)
		wantNothing(t, "no node of none", impl.Set{}, k, l)
	}
	wantNothing(t, "node 0 of none", impl.Set{}, 0, l)
}

func TestEvalOfNoTree(t *testing.T) {
	p := mustParse(t, wrongSrc)
	for what, how := range map[string]func(p *impl.Set){
		"a Kind that is none":       func(p *impl.Set) { p.L[len(p.L)-1].Kind = 99 },
		"a Kind that is none ahead": func(p *impl.Set) { p.L[0].Kind = 10 },
		"a kid of two":              func(p *impl.Set) { p.L[2].Kids[1] = 0 },
		"a kid that is none":        func(p *impl.Set) { p.L[2].Kids[1] = -1 },
		"a kid behind":              func(p *impl.Set) { p.L[2].Kids[1] = 3 },
		"its own kid":               func(p *impl.Set) { p.L[2].Kids[0] = 2 },
		"too few kids":              func(p *impl.Set) { p.L[2].Kids = []int{0} },
		"too many kids":             func(p *impl.Set) { p.L[2].Kids = []int{0, 1, 1} },
		"a number with a kid":       func(p *impl.Set) { p.L[1].Kids = []int{0} },
		"a node of none":            func(p *impl.Set) { p.L = append(p.L, numNode(1)) },
		"a procedure away":          func(p *impl.Set) { p.Procs = p.Procs[1:] },
		"no procedure":              func(p *impl.Set) { p.Procs = nil },
		"a Body that is none":       func(p *impl.Set) { p.Procs[0].Body = -1 },
		"a Body of two":             func(p *impl.Set) { p.Procs[0].Body = p.Procs[1].Body },
		"too long a name":           func(p *impl.Set) { p.Procs[0].Name = strings.Repeat("n", 4*impl.MaxSrc+1) },
		"all nodes away":            func(p *impl.Set) { p.L = nil },
	} {
		q := wrongly(t, how)
		for k := -1; k <= len(p.L)+1; k++ {
			wantNothing(t, what, q, k, evalVars)
		}
	}
	for _, q := range []impl.Set{signsSet(impl.MaxTree + 1), flatSet(impl.MaxTree + 1), procsSet(impl.MaxNodes + 1), {L: []impl.Node{numNode(5)}}} {
		wantNothing(t, "no tree set", q, 0, nil)
		wantNothing(t, "no tree set", q, len(q.L)-3, nil)
	}
}

// A tree set need not be one that may be run.
func TestEvalOfTreesThatMayNotBeRun(t *testing.T) {
	five := "proc a() { } proc b() { } proc c() { } proc d() { } "
	for what, p := range map[string]impl.Set{
		"five procedures":    mustParse(t, five+"proc e() { return 2 + 3; }"),
		"four Params":        mustParse(t, "proc p(a, b, c, d) { return 2 + 3; }"),
		"five rounds":        mustParse(t, "proc p() { for i in 5 { return 2 + 3; } }"),
		"a read of table 4":  bodySet(numNode(2), numNode(3), kidsNode(impl.NkAdd, 0, 1), nodeOf(impl.NkRead, "x", 4, 2), kidsNode(impl.NkBlock, 3)),
		"a write of table 9": bodySet(numNode(2), numNode(3), kidsNode(impl.NkAdd, 0, 1), numNode(1), nodeOf(impl.NkWrite, "", 9, 2, 3), kidsNode(impl.NkBlock, 4)),
	} {
		if impl.TargetOk(p) {
			t.Error("may be run:", what)
		}
		k := slices.IndexFunc(p.L, func(x impl.Node) bool { return x.Kind == impl.NkAdd })
		wantEval(t, p, k, nil, 5)
	}
}

func TestEvalOfDeepOnes(t *testing.T) {
	l := []impl.Var{{Name: "x", Val: 3}}
	signs := signsSet(impl.MaxTree)
	for _, k := range []int{0, 1, 2, impl.MaxTree - 4, impl.MaxTree - 3} {
		wantEval(t, signs, k, l, 3-6*(k%2))
	}
	left, right := []impl.Node{varNode("x")}, []impl.Node{varNode("x")}
	for len(left)+4 <= impl.MaxTree {
		left = append(left, numNode(1), kidsNode(impl.NkSub, len(left)-1, len(left)))
		right = append(right, numNode(1), kidsNode(impl.NkSub, len(right), len(right)-1))
	}
	n := len(left) / 2
	wantEval(t, returnSet(left...), 2*n, l, 3-n)
	// 1 less 1 less .. x: x and 1 less x take turns.
	wantEval(t, returnSet(right...), 2*n, l, []int{3, -2}[n%2])
	right[1] = numNode(0)
	right[2].Kind = impl.NkRest
	right[2].Kids = []int{0, 1}
	wantNothing(t, "a divisor 0 far below", returnSet(right...), 2*n, l)
	wantNothing(t, "and near by", returnSet(right...), 2, l)
	wantEval(t, returnSet(right...), 3, l, 1)
}
