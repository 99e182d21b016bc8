package tests

import (
	"math"
	"strconv"
	"strings"
	"testing"
	"time"

	"loop.example/g00689/impl"
)

func plainOverlap(x, y impl.Access) bool {
	if x.T != y.T {
		return false
	}
	if x.Const && y.Const {
		return x.R == y.R
	}
	return true
}

func plainCovered(x, y impl.Access) bool {
	if x.Same {
		return true
	}
	for _, r := range x.Rows {
		for _, s := range y.Rows {
			if r == s {
				return true
			}
		}
	}
	return false
}

// anyAccesses are not only such as Accesses answers.
func anyAccesses() []impl.Access {
	var l []impl.Access
	for _, table := range []int{0, 4, -1} {
		for _, key := range []impl.Access{{}, {R: 1}, {Const: true}, {Const: true, R: 1}, {Const: true, R: math.MinInt}} {
			for _, same := range []bool{false, true} {
				for i, rows := range [][]int{nil, {}, {1}, {4, 1}, {2, 3}, {3, 3, 0}, {math.MaxInt, math.MinInt, 1}} {
					l = append(l, impl.Access{Node: i, Write: i%2 == 0, T: table, Const: key.Const, R: key.R, Same: same, Rows: rows})
				}
			}
		}
	}
	return l
}

func TestOverlapAndCoveredOfAny(t *testing.T) {
	all := anyAccesses()
	overlap, covered := 0, 0
	for _, x := range all {
		for _, y := range all {
			if got := impl.Overlap(x, y); got != plainOverlap(x, y) || got != impl.Overlap(y, x) {
				t.Fatalf("Overlap of %v and %v is %v", x, y, got)
			} else if got {
				overlap++
			}
			if got := impl.Covered(x, y); got != plainCovered(x, y) {
				t.Fatalf("Covered of %v and %v is %v", x, y, got)
			} else if got {
				covered++
			}
		}
	}
	if overlap < 1000 || covered < 1000 || overlap == len(all)*len(all) || covered == len(all)*len(all) {
		t.Error("too few of a kind:", overlap, covered)
	}
}

func TestOverlap(t *testing.T) {
	any0, any1, one, other := impl.Access{T: 2}, impl.Access{T: 2, R: 1}, impl.Access{T: 2, Const: true, R: 1}, impl.Access{T: 2, Const: true, R: -1}
	for _, x := range []struct {
		x, y impl.Access
		want bool
	}{
		{impl.Access{}, impl.Access{}, true}, {any0, any0, true}, {any0, any1, true}, {any0, one, true}, {one, any0, true}, {any1, other, true}, {one, one, true}, {one, other, false}, {other, one, false},
		{any0, impl.Access{T: 1}, false}, {one, impl.Access{T: 1, Const: true, R: 1}, false}, {one, impl.Access{T: 3}, false},
		{impl.Access{T: 99}, impl.Access{T: 99}, true}, {impl.Access{T: math.MinInt}, impl.Access{T: math.MaxInt}, false},
		{impl.Access{Const: true, R: math.MinInt}, impl.Access{Const: true, R: math.MinInt}, true}, {impl.Access{Const: true, R: math.MinInt}, impl.Access{Const: true, R: math.MaxInt}, false},
		// All else says nothing.
		{impl.Access{Node: 1, Write: true, Same: true, Rows: []int{1}}, impl.Access{Node: 2, Rows: []int{2}}, true},
		{impl.Access{Node: 1, Write: true, Const: true, Same: true, Rows: []int{1}}, impl.Access{Node: 1, Write: true, Const: true, R: 1, Same: true, Rows: []int{1}}, false},
	} {
		if got := impl.Overlap(x.x, x.y); got != x.want {
			t.Errorf("Overlap of %v and %v is %v", x.x, x.y, got)
		}
	}
}

func TestCovered(t *testing.T) {
	rows := func(l ...int) impl.Access { return impl.Access{Rows: l} }
	same := impl.Access{Same: true}
	for _, x := range []struct {
		x, y impl.Access
		want bool
	}{
		{rows(), rows(), false}, {rows(1), rows(), false}, {rows(), rows(1), false}, {rows(1), rows(1), true}, {rows(1), rows(2), false}, {rows(0), rows(), false}, {rows(0), rows(0), true},
		{rows(1, 2, 3), rows(4, 5, 3), true}, {rows(1, 2, 3), rows(4, 5, 6), false}, {rows(9, 1, 5), rows(5), true}, {rows(5), rows(9, 1, 5), true}, {rows(9, 5, 1), rows(2, 9, 0), true}, {rows(3, 2, 1), rows(0, 1), true}, {rows(2, 2), rows(2, 2), true},
		{rows(math.MinInt, math.MaxInt), rows(math.MaxInt), true}, {rows(math.MinInt), rows(math.MaxInt), false},
		// Same of the first one alone.
		{same, rows(), true}, {rows(), same, false}, {same, same, true}, {rows(1), impl.Access{Same: true, Rows: []int{2}}, false}, {impl.Access{Same: true, Rows: []int{2}}, rows(1), true},
		// All else says nothing.
		{impl.Access{Node: 1, Write: true, T: 1, Const: true, R: 1, Rows: []int{1}}, impl.Access{Node: 2, T: 2, Const: true, R: 2, Rows: []int{1}}, true},
		{impl.Access{Node: 1, Write: true, T: 1, Const: true, R: 1}, impl.Access{Node: 1, Write: true, T: 1, Const: true, R: 1}, false},
	} {
		if got := impl.Covered(x.x, x.y); got != x.want {
			t.Errorf("Covered of %v and %v is %v", x.x, x.y, got)
		}
	}
}

// Very long lists are gone through in a time that can be waited for, in whatever order they are.
func TestCoveredOfLongLists(t *testing.T) {
	up, down := make([]int, 400000), make([]int, 400000)
	for i := range up {
		up[i], down[len(down)-1-i] = 2*i, 2*i+1
	}
	start := time.Now()
	if impl.Covered(impl.Access{Rows: up}, impl.Access{Rows: down}) || impl.Covered(impl.Access{Rows: down}, impl.Access{Rows: up}) {
		t.Error("nothing in common")
	}
	down[200000] = up[7]
	if !impl.Covered(impl.Access{Rows: up}, impl.Access{Rows: down}) || !impl.Covered(impl.Access{Rows: down}, impl.Access{Rows: up}) {
		t.Error("a number in common")
	}
	if took := time.Since(start); took > 20*time.Second {
		t.Error("it takes", took)
	}
}

// edgesText tells all edges of a set, by kind: Rw, Dep, Vuln, and Reaches.
func edgesText(p impl.Set) string {
	var kinds []string
	for _, edge := range []func(impl.Set, int, int) bool{impl.Rw, impl.Dep, impl.Vuln, impl.Reaches} {
		var l []string
		for a := range p.Procs {
			for b := range p.Procs {
				if edge(p, a, b) {
					l = append(l, strconv.Itoa(a)+strconv.Itoa(b))
				}
			}
		}
		kinds = append(kinds, strings.Join(l, " "))
	}
	return strings.Join(kinds, " / ")
}

func dangersText(l []impl.Danger) string {
	var texts []string
	for _, d := range l {
		texts = append(texts, strconv.Itoa(d.A)+strconv.Itoa(d.B)+strconv.Itoa(d.C))
	}
	return strings.Join(texts, " ")
}

// wantEdges asks for the edges, and for the Dangers and the VulnList, each number of each after the other.
func wantEdges(t *testing.T, p impl.Set, edges, dangers, vulns string) {
	t.Helper()
	if got := edgesText(p); got != edges {
		t.Errorf("%s\nedges %q, not %q", impl.SetText(p), got, edges)
	}
	if got := dangersText(impl.Dangers(p)); got != dangers {
		t.Errorf("%s\ndangers %q, not %q", impl.SetText(p), got, dangers)
	}
	if got := dangersText(impl.VulnList(p)); got != vulns {
		t.Errorf("%s\nvulnerable %q, not %q", impl.SetText(p), got, vulns)
	}
}

func TestEdgesOfOne(t *testing.T) {
	for stmts, want := range map[string][3]string{
		"":                                               {" /  /  / 00", "", ""},
		"x = 1; return x;":                               {" /  /  / 00", "", ""},
		"x = read A[0];":                                 {" /  /  / 00", "", ""},
		"x = read A[0]; x = read A[0];":                  {" /  /  / 00", "", ""},
		"write A[0] = 1;":                                {" / 00 /  / 00", "", ""},
		"write D[0] = 1;":                                {" / 00 /  / 00", "", ""},
		"x = read A[0]; write A[1] = 1;":                 {" / 00 /  / 00", "", ""},
		"x = read A[0]; write B[0] = 1;":                 {" / 00 /  / 00", "", ""},
		"x = read D[0]; write D[0] = 1;":                 {" / 00 /  / 00", "", ""},
		"x = read A[0]; write A[0] = 1;":                 {"00 / 00 / 00 / 00", "000", "000"},
		"x = read A[0]; write A[a] = 1;":                 {"00 / 00 / 00 / 00", "000", "000"},
		"x = read A[a]; write A[0] = 1;":                 {"00 / 00 / 00 / 00", "000", "000"},
		"write A[0] = 1; x = read A[0];":                 {"00 / 00 / 00 / 00", "000", "000"},
		"x = read A[a]; write A[a] = x;":                 {"00 / 00 /  / 00", "", ""},
		"x = read A[a]; write A[a] = a;":                 {"00 / 00 / 00 / 00", "000", "000"},
		"write D[0] = 1; x = read A[0]; write A[0] = 1;": {"00 / 00 /  / 00", "", ""},
		"x = read A[0]; write D[0] = 1; write A[0] = 1;": {"00 / 00 / 00 / 00", "000", "000"},
		"x = read A[0]; write D[0] = 1; write A[0] = 1; write D[0] = 1;": {"00 / 00 /  / 00", "", ""},
		"x = read A[0]; write D[0] = 1; write A[0] = 1; write D[1] = 1;": {"00 / 00 / 00 / 00", "000", "000"},
		"if (a) { x = read A[0]; } else { write A[0] = 1; }":             {"00 / 00 / 00 / 00", "000", "000"},
		"for i in 2 { x = read A[i]; } write A[7] = 1;":                  {"00 / 00 / 00 / 00", "000", "000"},
	} {
		wantEdges(t, conflictsOf(t, "proc p(a) { "+stmts+" }"), want[0], want[1], want[2])
	}
}

func TestEdgesOfTwo(t *testing.T) {
	for src, want := range map[string][3]string{
		// Two crosswise ones, and what becomes of them where something of them is written in addition.
		"proc p() { x = read A[0]; write B[0] = x; } proc q() { y = read B[0]; write A[0] = y; }":                                 {"01 10 / 00 01 10 11 / 01 10 / 00 01 10 11", "010 101", "010 100"},
		"proc p(a) { x = read A[a]; write A[a] = x; write B[0] = x; } proc q() { y = read B[0]; write A[0] = y; }":                {"00 01 10 / 00 01 10 11 / 10 / 00 01 10 11", "", "100"},
		"proc p() { x = read A[0]; write D[1] = 1; write B[0] = x; } proc q() { y = read B[0]; write A[0] = y; write D[1] = 1; }": {"01 10 / 00 01 10 11 / 10 / 00 01 10 11", "", "100"},
		"proc p() { x = read A[0]; write D[1] = 1; write B[0] = x; } proc q() { y = read B[0]; write A[0] = y; write D[2] = 1; }": {"01 10 / 00 01 10 11 / 01 10 / 00 01 10 11", "010 101", "010 100"},
		"proc p() { write D[0] = 1; x = read A[0]; write B[0] = x; } proc q() { write D[0] = 1; y = read B[0]; write A[0] = y; }": {"01 10 / 00 01 10 11 /  / 00 01 10 11", "", ""},
		"proc p() { write D[0] = 1; x = read A[0]; write B[0] = x; } proc q() { write D[1] = 1; y = read B[0]; write A[0] = y; }": {"01 10 / 00 01 10 11 / 01 10 / 00 01 10 11", "010 101", "010 100"},
		"proc p() { write D[0] = 1; x = read A[0]; write B[0] = x; } proc q() { y = read B[0]; write A[0] = y; write D[0] = 1; }": {"01 10 / 00 01 10 11 / 10 / 00 01 10 11", "", "100"},
		// One reads alone.
		"proc p() { x = read A[0]; } proc q() { write A[0] = 1; }":                                 {"01 / 01 10 11 / 01 / 00 01 10 11", "", "010"},
		"proc p() { x = read A[0]; x = read B[0]; } proc q() { y = read A[0]; write A[0] = 1; }":   {"01 11 / 01 10 11 / 01 11 / 00 01 10 11", "011 111", "010 110"},
		"proc p() { x = read A[0]; } proc q(a) { y = read A[a]; write A[a] = y; }":                 {"01 11 / 01 10 11 / 01 / 00 01 10 11", "", "010"},
		"proc p() { x = read A[0]; } proc q() { y = read A[0]; }":                                  {" /  /  / 00 11", "", ""},
		"proc p() { x = read A[0]; } proc q() { write A[1] = 1; }":                                 {" / 11 /  / 00 11", "", ""},
		"proc p() { x = read A[0]; } proc q() { write B[0] = 1; }":                                 {" / 11 /  / 00 11", "", ""},
		"proc p() { x = read D[0]; } proc q() { write D[0] = 1; }":                                 {" / 11 /  / 00 11", "", ""},
		"proc p() { write A[0] = 1; } proc q() { write A[0] = 1; }":                                {" / 00 01 10 11 /  / 00 01 10 11", "", ""},
		"proc p() { write A[0] = 1; } proc q() { write A[1] = 1; }":                                {" / 00 11 /  / 00 11", "", ""},
		"proc p(a) { write D[a] = 1; } proc q() { write D[1] = 1; }":                               {" / 00 01 10 11 /  / 00 01 10 11", "", ""},
		"proc p() { write D[0] = 1; } proc q() { write D[1] = 1; }":                                {" / 00 11 /  / 00 11", "", ""},
		"proc p() { write D[0] = 1; write D[1] = 1; } proc q() { write D[1] = 1; x = read A[0]; }": {" / 00 01 10 11 /  / 00 01 10 11", "", ""},
		// Two pairs of accesses, of which one is covered and one is not.
		"proc p() { x = read A[0]; write D[1] = 1; y = read A[0]; } proc q() { write A[0] = 1; write D[1] = 1; }":                 {"01 / 00 01 10 11 / 01 / 00 01 10 11", "", "010"},
		"proc p() { x = read A[0]; write D[1] = 1; } proc q() { write A[0] = 1; write D[1] = 1; y = 1; write A[0] = 2; }":         {"01 / 00 01 10 11 / 01 / 00 01 10 11", "", "010"},
		"proc p() { x = read A[0]; write D[1] = 1; } proc q() { write A[0] = 1; write D[1] = 1; y = 1; write A[1] = 2; }":         {"01 / 00 01 10 11 /  / 00 01 10 11", "", ""},
		"proc p() { x = read A[0]; write D[1] = 1; y = read A[1]; } proc q() { write A[0] = 1; write D[1] = 1; write B[0] = 1; }": {"01 / 00 01 10 11 /  / 00 01 10 11", "", ""},
	} {
		wantEdges(t, conflictsOf(t, src), want[0], want[1], want[2])
	}
}

func TestEdgesOfMany(t *testing.T) {
	chain := "proc p() { x = read A[0]; } proc q() { write A[0] = 1; x = read B[0]; } proc r() { write B[0] = 1; x = read C[0]; } proc s() { write C[0] = 1; }"
	wantEdges(t, mustParse(t, chain), "01 12 23 / 01 10 11 12 21 22 23 32 33 / 01 12 23 / 00 01 02 03 10 11 12 13 20 21 22 23 30 31 32 33", "012 123", "010 120 230")
	// The same, with the ends in the middle.
	other := "proc p() { write B[0] = 1; x = read C[0]; } proc q() { x = read A[0]; } proc r() { write C[0] = 1; } proc s() { write A[0] = 1; x = read B[0]; }"
	wantEdges(t, mustParse(t, other), "02 13 30 / 00 02 03 13 20 22 30 31 33 / 02 13 30 / 00 01 02 03 10 11 12 13 20 21 22 23 30 31 32 33", "130 302", "020 130 300")
	// Two by two, which are nothing to each other.
	two := "proc p() { x = read A[0]; write A[0] = 1; } proc q() { x = read B[0]; } proc r() { write A[0] = 2; } proc s() { write B[0] = 1; }"
	wantEdges(t, mustParse(t, two), "00 02 13 / 00 02 13 20 22 31 33 / 00 02 13 / 00 02 11 13 20 22 31 33", "000 002", "000 020 130")
	none := "proc p() { x = read A[0]; } proc q() { x = read A[1]; } proc r() { } proc s() { return 1; }"
	wantEdges(t, mustParse(t, none), " /  /  / 00 11 22 33", "", "")
	// All with all.
	all, pairs, triples := "", "", ""
	for a, name := range strings.Split("pqrs", "") {
		all += "proc " + name + "(a) { x = read A[a]; write A[x] = a; }"
		for b := range 4 {
			pairs += " " + strconv.Itoa(a) + strconv.Itoa(b)
			for c := range 4 {
				triples += " " + strconv.Itoa(a) + strconv.Itoa(b) + strconv.Itoa(c)
			}
		}
	}
	pairs, triples = pairs[1:], triples[1:]
	vulns := strings.ReplaceAll(pairs, " ", "0 ") + "0"
	wantEdges(t, mustParse(t, all), pairs+" / "+pairs+" / "+pairs+" / "+pairs, triples, vulns)
	// Procedures of one name are procedures of their own.
	named := mustParse(t, chain)
	for k := range named.Procs {
		named.Procs[k].Name = "p"
	}
	wantEdges(t, named, edgesText(mustParse(t, chain)), "012 123", "010 120 230")
}

// What is reached goes over one that has nothing but dependencies, as far as may be.
func TestReachesFar(t *testing.T) {
	for _, order := range [][]int{{0, 1, 2, 3}, {3, 2, 1, 0}, {0, 2, 1, 3}, {1, 3, 0, 2}, {2, 0, 3, 1}, {1, 0, 3, 2}} {
		// One behind the other in that order, by writes of one row for each two that stand side by side.
		stmts := make([]string, 4)
		for i := range 3 {
			for _, k := range order[i : i+2] {
				stmts[k] += " write A[" + strconv.Itoa(i) + "] = 1;"
			}
		}
		src := ""
		for k, name := range strings.Split("pqrs", "") {
			src += "proc " + name + "() {" + stmts[k] + " }"
		}
		p := mustParse(t, src)
		for i, a := range order {
			for j, b := range order {
				near := i-j <= 1 && j-i <= 1
				if impl.Dep(p, a, b) != near || !impl.Reaches(p, a, b) || impl.Rw(p, a, b) || impl.Vuln(p, a, b) {
					t.Errorf("%s\nfrom %d to %d: %v, %v", src, a, b, impl.Dep(p, a, b), impl.Reaches(p, a, b))
				}
			}
		}
		if len(impl.Dangers(p)) != 0 || len(impl.VulnList(p)) != 0 {
			t.Error("dangers without a read")
		}
	}
}

// As many accesses as there may be, or as many guards, in as many procedures.
func TestEdgesOfTheMost(t *testing.T) {
	for stmts, vulns := range map[string]int{
		strings.Repeat("x = read A[a]; write A[x] = a;", 48) + "y = 1;":                                                                                   16,
		strings.Repeat("for i in 1 { x = read A[a]; write A[x] = i; }", 32) + "y = 1;":                                                                    16,
		strings.Repeat("write D[7] = 1;", 42) + strings.Repeat("x = read A[a]; write D[1] = 1; y = 1; write A[x] = a; write D[8] = 1;", 11):               0,
		strings.Repeat("x = read A[a]; write A[a] = x;", 48) + "y = 1;":                                                                                   0,
		strings.Repeat("write D[7] = 1;", 40) + "x = read A[a];" + strings.Repeat("write A[a] = x; write D[6] = 1;", 28):                                  0,
		"y = read A[a];" + strings.Repeat("x = read A[a];", 50) + strings.Repeat("write D[7] = 1;", 40) + strings.Repeat("write A[a] = x;", 5) + "y = 1;": 16,
	} {
		one := conflictsOf(t, "proc p(a) { "+stmts+" }")
		p := joinedSets(joinedSets(one, one), joinedSets(one, one))
		if !impl.TargetOk(p) || impl.Stmts(p, 3) != 4*impl.MaxStmts+1 {
			t.Fatal(stmts, impl.Stmts(p, 3))
		}
		start := time.Now()
		if v, d := len(impl.VulnList(p)), len(impl.Dangers(p)); v != vulns || d != 4*vulns {
			t.Errorf("%s: %d vulnerable, %d dangers", stmts, v, d)
		}
		if took := time.Since(start); took > 10*time.Second {
			t.Errorf("%s: it takes %v", stmts, took)
		}
	}
}
