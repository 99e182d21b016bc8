package tests

import (
	"regexp"
	"slices"
	"strconv"
	"strings"
	"testing"

	"loop.example/g00689/impl"
)

// mendSet is the set of a text in which D stands for the table of conflicts where it is written, and an f at the front of a name for a $.
func mendSet(t *testing.T, s string) impl.Set {
	t.Helper()
	p := conflictsOf(t, s)
	dollar := func(name *string) {
		if rest, found := strings.CutPrefix(*name, "f"); found {
			*name = "$" + rest
		}
	}
	for i := range p.L {
		dollar(&p.L[i].S)
	}
	for i := range p.Procs {
		for j := range p.Procs[i].Params {
			dollar(&p.Procs[i].Params[j])
		}
	}
	return p
}

func procText(head, stmts string) string {
	return strings.Replace("proc "+head+" { "+stmts+" }", "{  }", "{ }", 1)
}

// wantMended asks for a set that may be run, whose nodes stand as they are complete, and for the texts of its procedures.
func wantMended(t *testing.T, what string, got impl.Set, ok bool, want ...string) {
	t.Helper()
	if s := impl.SetText(got); !ok || s != strings.Join(want, "\n")+"\n" {
		t.Errorf("%s: %v\n%snot\n%s", what, ok, s, strings.Join(want, "\n"))
	}
	if ok && (!wholeTree(got) || !plainTargetOk(got)) {
		t.Errorf("%s: not in order, or not to be run: %v", what, got)
	}
}

// mendCase has the statements of a procedure p(a), and what they become.
type mendCase struct {
	stmts string
	want  string
}

// wantPromotedBy promotes p towards q(b), which has other statements.
func wantPromotedBy(t *testing.T, other string, all ...mendCase) {
	t.Helper()
	for _, x := range all {
		p := mendSet(t, "proc p(a) { "+x.stmts+" } proc q(b) { "+other+" }")
		got, ok := impl.Promote(p, 0, 1)
		q := strings.Split(impl.SetText(p), "\n")[1]
		wantMended(t, x.stmts, got, ok, procText("p(a)", x.want), q)
		if impl.Vuln(got, 0, 1) {
			t.Errorf("%s: vulnerable towards q", impl.SetText(got))
		}
	}
}

// The other one writes row 0 of A alone.
func TestPromoteWhatOverlaps(t *testing.T) {
	wantPromotedBy(t, "write A[0] = b;",
		mendCase{"x = read A[a];", "$0 = a; x = read A[$0]; write A[$0] = x;"},
		mendCase{"x = read A[0];", "$0 = 0; x = read A[$0]; write A[$0] = x;"},
		mendCase{"x = read A[-0];", "$0 = (-0); x = read A[$0]; write A[$0] = x;"},
		mendCase{"v = 0; x = read A[v];", "v = 0; $0 = v; x = read A[$0]; write A[$0] = x;"},
		mendCase{"v = 1; if (a) { } x = read A[v];", "v = 1; if (a) { } $0 = v; x = read A[$0]; write A[$0] = x;"},
		mendCase{"a = read A[a];", "$0 = a; a = read A[$0]; write A[$0] = a;"},
		mendCase{"x = 1; x = read A[a]; return x;", "x = 1; $0 = a; x = read A[$0]; write A[$0] = x; return x;"},
		// What is read behind the end, too.
		mendCase{"return a; x = read A[a];", "return a; $0 = a; x = read A[$0]; write A[$0] = x;"},
	)
	wantPromotedBy(t, "if (b) { for i in 2 { write A[i] = 1; } }", mendCase{"x = read A[7];", "$0 = 7; x = read A[$0]; write A[$0] = x;"})
	wantPromotedBy(t, "y = read A[b]; write A[b] = y;", mendCase{"x = read A[7];", "$0 = 7; x = read A[$0]; write A[$0] = x;"})
	for _, table := range []string{"A", "B", "C"} {
		wantPromotedBy(t, "write "+table+"[b] = 1;", mendCase{"x = read " + table + "[3];", "$0 = 3; x = read " + table + "[$0]; write " + table + "[$0] = x;"})
	}
	p := mustParse(t, "proc p() { x = read D[3]; } proc q() { write D[3] = 1; }")
	got, ok := impl.Promote(p, 0, 1)
	wantMended(t, "D", got, ok, "proc p() { $0 = 3; x = read D[$0]; write D[$0] = x; }", "proc q() { write D[3] = 1; }")
}

func TestPromoteWhatDoesNotOverlap(t *testing.T) {
	for _, stmts := range []string{
		"", "return a;", "x = read A[1];", "x = read A[(-1)];", "x = read B[a];", "x = read B[0];", "x = read D[0];", "v = 1; x = read A[v];",
		"write A[a] = 1;", "write A[0] = 1;", "write B[0] = a;", "if (a) { x = read A[3]; } else { x = read C[a]; }", "for i in 2 { v = 2; x = read A[v]; }",
	} {
		wantPromotedBy(t, "write A[0] = b;", mendCase{stmts, stmts})
	}
	// One that writes nothing that could be read.
	for _, other := range []string{"", "x = read A[a];", "write D[0] = 1;", "x = read A[0]; y = read B[0]; return y;"} {
		wantPromotedBy(t, other, mendCase{"x = read A[a];", "x = read A[a];"}, mendCase{"x = read D[0];", "x = read D[0];"})
	}
}

// A mark does not keep a read from being promoted; a return does.
func TestPromoteWhatIsGuarded(t *testing.T) {
	wantPromotedBy(t, "write A[0] = b; write D[1] = 1;",
		mendCase{"x = read A[a]; write A[a] = x;", "x = read A[a]; write A[a] = x;"},
		mendCase{"v = 0; x = read A[v]; write D[1] = 1; write A[v] = x;", "v = 0; x = read A[v]; write #[1] = 1; write A[v] = x;"},
		mendCase{"x = read A[a]; write D[1] = 1;", "$0 = a; x = read A[$0]; write A[$0] = x; write #[1] = 1;"},
		mendCase{"write D[1] = 1; x = read A[a];", "write #[1] = 1; $0 = a; x = read A[$0]; write A[$0] = x;"},
		mendCase{"x = read A[a]; y = 1; write A[a] = x;", "$0 = a; x = read A[$0]; write A[$0] = x; y = 1; write A[a] = x;"},
		mendCase{"x = read A[a]; write A[a] = a;", "$0 = a; x = read A[$0]; write A[$0] = x; write A[a] = a;"},
		mendCase{"x = read A[0]; write A[0] = x;", "$0 = 0; x = read A[$0]; write A[$0] = x; write A[0] = x;"},
		mendCase{"a = read A[a]; write A[a] = a;", "$0 = a; a = read A[$0]; write A[$0] = a; write A[a] = a;"},
		mendCase{"x = read A[a]; write A[a] = x; y = read A[a];", "x = read A[a]; write A[a] = x; $0 = a; y = read A[$0]; write A[$0] = y;"},
		mendCase{"f0 = a; x = read A[f0]; write A[f0] = x;", "$0 = a; x = read A[$0]; write A[$0] = x;"},
	)
}

func TestPromoteKeysOfAnyKind(t *testing.T) {
	for _, key := range []string{"0", "a", "(-0)", "(-a)", "(-(-0))", "(a + 1)", "((a - 1) * (a / 2))", "(a % (-3))", "(a < 1)", "(a == a)", "((-(a + (0 / 0))) < 5)"} {
		wantPromotedBy(t, "write A[0] = b;", mendCase{"x = read A[" + key + "];", "$0 = " + key + "; x = read A[$0]; write A[$0] = x;"})
	}
}

func TestPromoteSeveral(t *testing.T) {
	wantPromotedBy(t, "write A[0] = b; write B[b] = 1;",
		mendCase{"x = read A[a]; y = read A[x];", "$0 = a; x = read A[$0]; write A[$0] = x; $1 = x; y = read A[$1]; write A[$1] = y;"},
		mendCase{"x = read A[a]; y = read A[1]; z = read B[y]; w = read C[z]; x = read A[x + y];",
			"$0 = a; x = read A[$0]; write A[$0] = x; y = read A[1]; $1 = y; z = read B[$1]; write B[$1] = z; w = read C[z]; $2 = (x + y); x = read A[$2]; write A[$2] = x;"},
		mendCase{"x = read A[a]; x = read A[a];", "$0 = a; x = read A[$0]; write A[$0] = x; $1 = a; x = read A[$1]; write A[$1] = x;"},
		mendCase{"if (a) { x = read A[a]; }", "if (a) { $0 = a; x = read A[$0]; write A[$0] = x; }"},
		mendCase{"if (a) { x = read A[a]; } else { y = read B[a]; }",
			"if (a) { $0 = a; x = read A[$0]; write A[$0] = x; } else { $1 = a; y = read B[$1]; write B[$1] = y; }"},
		mendCase{"for i in 2 { x = read A[i]; }", "for i in 2 { $0 = i; x = read A[$0]; write A[$0] = x; }"},
		mendCase{"for i in 2 { if (i) { x = read A[i]; write B[i] = x; } else { } y = read B[x]; } z = read A[0]; return z;",
			"for i in 2 { if (i) { $0 = i; x = read A[$0]; write A[$0] = x; write B[i] = x; } else { } $1 = x; y = read B[$1]; write B[$1] = y; } $2 = 0; z = read A[$2]; write A[$2] = z; return z;"},
		mendCase{"x = read B[0]; if (x) { for i in 3 { if (i) { } else { x = read B[i]; } } } else { if (x) { x = read A[a]; } else { x = read A[2]; } } abort;",
			"$0 = 0; x = read B[$0]; write B[$0] = x; if (x) { for i in 3 { if (i) { } else { $1 = i; x = read B[$1]; write B[$1] = x; } } } else { if (x) { $2 = a; x = read A[$2]; write A[$2] = x; } else { x = read A[2]; } } abort;"},
	)
	var want []string
	for i := range 12 {
		name := "$" + strconv.Itoa(i)
		want = append(want, name+" = a; x = read A["+name+"]; write A["+name+"] = x;")
	}
	wantPromotedBy(t, "write A[0] = b;", mendCase{strings.Repeat("x = read A[a];", 12), strings.Join(want, " ")})
}

var dollarNames = regexp.MustCompile(`\bf([0-9x_]*)\b`)

func withDollars(s string) string {
	return dollarNames.ReplaceAllString(s, "$$${1}")
}

// Names that stand already are left out; so are those at which a read was promoted ahead.
func TestPromoteFreshNames(t *testing.T) {
	promotes := func(name, ahead, behind string) mendCase {
		return mendCase{ahead + "x = read A[a];" + behind, withDollars(ahead) + name + " = a; x = read A[" + name + "]; write A[" + name + "] = x;" + withDollars(behind)}
	}
	wantPromotedBy(t, "write A[0] = b;",
		promotes("$1", "f0 = 1; ", ""),
		promotes("$1", "", " f0 = 1;"),
		promotes("$1", "return f0; ", ""),
		promotes("$1", "", " if (1) { y = (1 + f0); }"),
		promotes("$1", "f0 = read B[0]; ", ""),
		promotes("$0", "f1 = 1; ", ""),
		promotes("$2", "f1 = 1; ", " return f0;"),
		promotes("$4", "f3 = f1; ", " f0 = f2;"),
		promotes("$2", "f0 = f1; ", " return f3;"),
		promotes("$3", "f0 = f10; f2 = 1; ", " return f1;"),
		promotes("$11", "f0 = ((((((((((f1 + f2) + f3) + f4) + f5) + f6) + f7) + f8) + f9) + f10) + f12); ", ""),
		// Names that are like them.
		promotes("$0", "f00 = 1; ", ""),
		promotes("$0", "f01 = f; ", " f_0 = f0x;"),
		promotes("$1", "f0 = f01; ", " f001 = f1_;"),
		mendCase{"f0 = read A[a];", "$1 = a; $0 = read A[$1]; write A[$1] = $0;"},
		mendCase{"f1 = read A[f0];", "$2 = $0; $1 = read A[$2]; write A[$2] = $1;"},
		mendCase{"for f0 in 2 { x = read A[f0]; }", "for $0 in 2 { $1 = $0; x = read A[$1]; write A[$1] = x; }"},
		mendCase{"write A[f1] = f0; x = read A[f3]; y = read A[a];", "write A[$1] = $0; $2 = $3; x = read A[$2]; write A[$2] = x; $4 = a; y = read A[$4]; write A[$4] = y;"},
		mendCase{"x = read A[a]; y = read A[a]; z = read A[a]; return f1;",
			"$0 = a; x = read A[$0]; write A[$0] = x; $2 = a; y = read A[$2]; write A[$2] = y; $3 = a; z = read A[$3]; write A[$3] = z; return $1;"},
		mendCase{"f0 = a; x = read A[f0]; write A[f0] = x; y = read A[a];", "$0 = a; x = read A[$0]; write A[$0] = x; $1 = a; y = read A[$1]; write A[$1] = y;"},
	)
}

func TestPromoteFreshNamesOfParams(t *testing.T) {
	for params, want := range map[string]string{"f0": "$1", "f1": "$0", "f0, f1": "$2", "a, f1, f0": "$2", "f1, f2, a": "$0", "f0, f2": "$1", "f, f00, f_": "$0"} {
		p := mendSet(t, "proc p("+params+") { x = read A[5]; } proc q() { write A[5] = 1; }")
		got, ok := impl.Promote(p, 0, 1)
		wantMended(t, params, got, ok, "proc p("+withDollars(params)+") { "+want+" = 5; x = read A["+want+"]; write A["+want+"] = x; }", "proc q() { write A[5] = 1; }")
	}
	p := mendSet(t, "proc p(f0, f2) { x = read A[f1]; y = read A[f3]; } proc q() { write A[5] = 1; }")
	got, ok := impl.Promote(p, 0, 1)
	wantMended(t, "params and nodes", got, ok, "proc p($0, $2) { $4 = $1; x = read A[$4]; write A[$4] = x; $5 = $3; y = read A[$5]; write A[$5] = y; }", "proc q() { write A[5] = 1; }")
}

// A fresh name is one of its procedure: what other procedures have there does not matter, nor how a procedure is called.
func TestPromoteFreshNamesOfOthers(t *testing.T) {
	p := mendSet(t, "proc o(f0) { f1 = read B[f0]; } proc p(a) { x = read A[a]; } proc q(f0) { write A[f1] = f0; f2 = 1; }")
	p.Procs[1].Name = "$0"
	got, ok := impl.Promote(p, 1, 2)
	wantMended(t, "names of others", got, ok, "proc o($0) { $1 = read B[$0]; }", "proc $0(a) { $0 = a; x = read A[$0]; write A[$0] = x; }", "proc q($0) { write A[$1] = $0; $2 = 1; }")
}

// An S counts wherever it stands, also in a node that has no use for one.
func TestPromoteFreshNamesOfAnyNode(t *testing.T) {
	src := "proc p(a) { if (a + 1) { abort; } write B[0] = -a; return 2; x = read A[0]; } proc q() { write A[0] = 1; }"
	first := mustParse(t, src)
	for k, x := range first.L {
		if x.S != "" || rootOf(first, k) != first.Procs[0].Body && k != first.Procs[0].Body {
			continue
		}
		p := mustParse(t, src)
		p.L[k].S = "$0"
		got, ok := impl.Promote(p, 0, 1)
		if !ok || !slices.ContainsFunc(got.L, func(x impl.Node) bool { return x.Kind == impl.NkSet && x.S == "$1" }) {
			t.Errorf("node %d of Kind %d: %s", k, x.Kind, impl.SetText(got))
		}
	}
}

func TestPromoteTowardsItself(t *testing.T) {
	for _, x := range []mendCase{
		{"x = read A[a]; write A[a] = x + 1;", "$0 = a; x = read A[$0]; write A[$0] = x; write A[a] = (x + 1);"},
		{"write A[0] = 1; x = read A[0];", "write A[0] = 1; $0 = 0; x = read A[$0]; write A[$0] = x;"},
		{"x = read A[1]; write A[0] = x; y = read A[0];", "x = read A[1]; write A[0] = x; $0 = 0; y = read A[$0]; write A[$0] = y;"},
		{"x = read A[1]; write A[0] = x;", "x = read A[1]; write A[0] = x;"},
		{"x = read A[a]; write B[0] = x;", "x = read A[a]; write B[0] = x;"},
		{"x = read A[a]; write A[a] = x;", "x = read A[a]; write A[a] = x;"},
		{"x = read A[a]; write A[a] = x; y = read A[0];", "x = read A[a]; write A[a] = x; $0 = 0; y = read A[$0]; write A[$0] = y;"},
	} {
		p := mustParse(t, "proc p(a) { "+x.stmts+" } proc q(b) { write A[b] = 1; }")
		got, ok := impl.Promote(p, 0, 0)
		wantMended(t, x.stmts, got, ok, procText("p(a)", x.want), "proc q(b) { write A[b] = 1; }")
	}
}

// Which one is promoted, and towards which one.
func TestPromoteOneTowardsAnother(t *testing.T) {
	src := []string{"proc p() { x = read A[0]; y = read B[0]; }", "proc q() { x = read B[0]; write A[0] = 1; }", "proc r() { x = read A[0]; write B[0] = 1; }", "proc s() { x = read C[0]; }"}
	x, y := "$0 = 0; x = read A[$0]; write A[$0] = x;", "$0 = 0; y = read B[$0]; write B[$0] = y;"
	want := map[[2]int]string{
		{0, 1}: "proc p() { " + x + " y = read B[0]; }",
		{0, 2}: "proc p() { x = read A[0]; " + y + " }",
		{1, 2}: "proc q() { $0 = 0; x = read B[$0]; write B[$0] = x; write A[0] = 1; }",
		{2, 1}: "proc r() { " + x + " write B[0] = 1; }",
	}
	for a := range src {
		for b := range src {
			lines := slices.Clone(src)
			if s, found := want[[2]int{a, b}]; found {
				lines[a] = s
			}
			got, ok := impl.Promote(mustParse(t, strings.Join(src, " ")), a, b)
			wantMended(t, strconv.Itoa(a)+" towards "+strconv.Itoa(b), got, ok, lines...)
		}
	}
}

// All nodes, field by field.
func TestPromoteNodes(t *testing.T) {
	p := mustParse(t, "proc p(a) { x = read B[a]; return x; } proc q() { write B[4] = 5; }")
	p.L[3].N = 9
	want := impl.Set{
		L: []impl.Node{
			varNode("a"), nodeOf(impl.NkSet, "$0", 0, 0), varNode("$0"), nodeOf(impl.NkRead, "x", 1, 2), varNode("$0"), varNode("x"), nodeOf(impl.NkWrite, "", 1, 4, 5),
			varNode("x"), nodeOf(impl.NkReturn, "", 9, 7), kidsNode(impl.NkBlock, 1, 3, 6, 8), numNode(4), numNode(5), nodeOf(impl.NkWrite, "", 1, 10, 11), kidsNode(impl.NkBlock, 12),
		},
		Procs: []impl.Proc{{Name: "p", Params: []string{"a"}, Body: 9}, {Name: "q", Body: 13}},
	}
	if got, ok := impl.Promote(p, 0, 1); !ok || !plainSet(got, want) {
		t.Errorf("%v, not %v", got, want)
	}
}

// turned are the same procedures, with the nodes in another order: those of the last one ahead, and in each one those behind ahead where that may be.
func turned(p impl.Set) impl.Set {
	var out impl.Set
	for k := len(p.Procs) - 1; k >= 0; k-- {
		out = joinedSets(out, onlyProc(p, k))
	}
	slices.Reverse(out.Procs)
	for k := range out.Procs {
		out.Procs[k].Name = p.Procs[k].Name
	}
	return out
}

// From the front to the back is as the statements stand, in whatever order their nodes are.
func TestMendSetsInAnotherOrder(t *testing.T) {
	p := mendSet(t, "proc p(a) { x = read A[a]; if (x) { y = read A[1 + a]; } else { z = read A[f1]; } } proc q(b) { write A[b - 1] = b; } proc r() { }")
	other := turned(p)
	if wholeTree(other) || !plainTargetOk(other) || impl.SetText(other) != impl.SetText(p) {
		t.Fatal("not another order of the same:", other)
	}
	for what, call := range map[string]func(impl.Set) (impl.Set, bool){
		"Promote":             func(p impl.Set) (impl.Set, bool) { return impl.Promote(p, 0, 1) },
		"Promote of nothing":  func(p impl.Set) (impl.Set, bool) { return impl.Promote(p, 1, 0) },
		"Mark":                func(p impl.Set) (impl.Set, bool) { return impl.Mark(p, 0, 1) },
		"Mark of nothing":     func(p impl.Set) (impl.Set, bool) { return impl.Mark(p, 2, 2) },
		"MarkAll":             impl.MarkAll,
		"Promote of no read":  func(p impl.Set) (impl.Set, bool) { return impl.Promote(p, 2, 0) },
		"Promote towards one": func(p impl.Set) (impl.Set, bool) { return impl.Promote(p, 0, 2) },
	} {
		want, _ := call(p)
		got, ok := call(other)
		if !ok || !plainSet(got, want) || !wholeTree(got) {
			t.Errorf("%s: %v, not %v", what, got, want)
		}
	}
	got, ok := impl.Promote(other, 0, 1)
	wantMended(t, "another order", got, ok,
		"proc p(a) { $0 = a; x = read A[$0]; write A[$0] = x; if (x) { $2 = (1 + a); y = read A[$2]; write A[$2] = y; } else { $3 = $1; z = read A[$3]; write A[$3] = z; } }",
		"proc q(b) { write A[(b - 1)] = b; }", "proc r() { }")
}

// What a node has beside what it needs is kept, where the node is.
func TestMendKeepsWhatIsNotNeeded(t *testing.T) {
	p := mustParse(t, "proc p(a) { x = read A[a]; abort; if (1) { } } proc q() { write A[0] = 1; }")
	for k := range p.L {
		if p.L[k].S == "" {
			p.L[k].S = "odd"
		}
		if kind := p.L[k].Kind; kind != impl.NkRead && kind != impl.NkWrite && kind != impl.NkNum {
			p.L[k].N = 70 + k
		}
	}
	for what, call := range map[string]func() (impl.Set, bool){
		"Promote of nothing": func() (impl.Set, bool) { return impl.Promote(p, 1, 1) },
		"Mark of nothing":    func() (impl.Set, bool) { return impl.Mark(p, 1, 1) },
	} {
		if got, ok := call(); !ok || !plainSet(got, p) {
			t.Errorf("%s: %v, not %v", what, got, p)
		}
	}
	kept := func(got impl.Set) int {
		n := 0
		for _, x := range got.L {
			if slices.ContainsFunc(p.L, func(old impl.Node) bool { return old.Kind == x.Kind && old.S == x.S && old.N == x.N }) {
				n++
			}
		}
		return n
	}
	marked, ok := impl.Mark(p, 0, 1)
	all, fine := impl.MarkAll(p)
	promoted, good := impl.Promote(p, 0, 1)
	if !ok || !fine || !good || kept(marked) != len(p.L) || kept(all) != len(p.L) || kept(promoted) != len(p.L) {
		t.Error("not all is kept:", kept(marked), kept(all), kept(promoted), len(p.L))
	}
	if len(marked.L) != len(p.L)+6 || len(all.L) != len(p.L)+6 || len(promoted.L) != len(p.L)+5 {
		t.Error("too many nodes, or too few:", len(marked.L), len(all.L), len(promoted.L), len(p.L))
	}
}
