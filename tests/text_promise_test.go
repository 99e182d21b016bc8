package tests

import (
	"math"
	"slices"
	"testing"

	"loop.example/g00689/impl"
)

// kidRoles says for each Kind which roles its kids have, in the ways that there are: e for an expression, b for a block; * is for any number of statements.
var kidRoles = map[int][]string{
	impl.NkNum: {""}, impl.NkVar: {""}, impl.NkNeg: {"e"},
	impl.NkAdd: {"ee"}, impl.NkSub: {"ee"}, impl.NkMul: {"ee"}, impl.NkDiv: {"ee"}, impl.NkRest: {"ee"}, impl.NkLess: {"ee"}, impl.NkSame: {"ee"},
	impl.NkSet: {"e"}, impl.NkRead: {"e"}, impl.NkWrite: {"ee"}, impl.NkIf: {"eb", "ebb"}, impl.NkFor: {"b"}, impl.NkAbort: {""}, impl.NkReturn: {"e"},
	impl.NkBlock: {"*"},
}

var roleKinds = map[byte][]int{
	'e': {impl.NkNum, impl.NkVar, impl.NkNeg, impl.NkAdd, impl.NkSub, impl.NkMul, impl.NkDiv, impl.NkRest, impl.NkLess, impl.NkSame},
	's': {impl.NkSet, impl.NkRead, impl.NkWrite, impl.NkIf, impl.NkFor, impl.NkAbort, impl.NkReturn},
	'b': {impl.NkBlock},
}

// treeWalk goes down from the procedures, and comes to each node once.
type treeWalk struct {
	p    impl.Set
	seen map[int]bool
}

func (w treeWalk) node(k, above int, role byte) bool {
	if k < 0 || k >= above || w.seen[k] || !slices.Contains(roleKinds[role], w.p.L[k].Kind) {
		return false
	}
	w.seen[k] = true
	kids := w.p.L[k].Kids
	for _, roles := range kidRoles[w.p.L[k].Kind] {
		if roles == "*" || len(roles) == len(kids) {
			return w.kids(k, kids, roles)
		}
	}
	return false
}

func (w treeWalk) kids(k int, kids []int, roles string) bool {
	for i, kid := range kids {
		role := byte('s')
		if roles != "*" {
			role = roles[i]
		}
		if !w.node(kid, k, role) {
			return false
		}
	}
	return true
}

func plainTree(p impl.Set) bool {
	if len(p.L) > impl.MaxTree || len(p.Procs) > impl.MaxNodes {
		return false
	}
	n := 0
	for _, x := range p.L {
		n += len(x.S)
	}
	w := treeWalk{p: p, seen: map[int]bool{}}
	for _, proc := range p.Procs {
		n += len(proc.Name)
		for _, param := range proc.Params {
			n += len(param)
		}
		if !w.node(proc.Body, len(p.L), 'b') {
			return false
		}
	}
	return len(w.seen) == len(p.L) && n <= 4*impl.MaxSrc
}

func plainSizesOk(p impl.Set, stmts, steps int) bool {
	for _, x := range p.L {
		if x.Kind == impl.NkFor && (x.N < 1 || x.N > impl.MaxTimes) {
			return false
		}
	}
	for k, proc := range p.Procs {
		if len(proc.Params) > impl.MaxParams || plainCount(p, k) > stmts || plainBound(p, k) > steps {
			return false
		}
	}
	return len(p.Procs) >= 1 && len(p.Procs) <= impl.MaxProcs
}

func plainSourceOk(p impl.Set) bool {
	if !plainTree(p) || !plainSizesOk(p, impl.MaxStmts, impl.MaxSteps) {
		return false
	}
	names := map[string]bool{}
	for _, proc := range p.Procs {
		names[proc.Name] = true
		params := map[string]bool{}
		for _, param := range proc.Params {
			params[param] = true
		}
		if len(params) != len(proc.Params) {
			return false
		}
	}
	again, at := plainParse(bracketedSet(p))
	return len(names) == len(p.Procs) && at == -1 && plainSet(again, p)
}

func plainTargetOk(p impl.Set) bool {
	if !plainTree(p) || !plainSizesOk(p, 4*impl.MaxStmts+1, 4*impl.MaxSteps+10) {
		return false
	}
	for _, x := range p.L {
		most := map[int]int{impl.NkRead: 3, impl.NkWrite: 4}
		if last, has := most[x.Kind]; has && (x.N < 0 || x.N > last) {
			return false
		}
	}
	return true
}

// wantPlainOk holds what is told of a set against the plain readings; it says whether it is a tree set.
func wantPlainOk(t *testing.T, p impl.Set) bool {
	t.Helper()
	if !plainTree(p) {
		wantNoTree(t, "a drawn set that is no tree set", p)
		return false
	}
	if impl.SetText(p) != bracketedSet(p) || impl.SourceOk(p) != plainSourceOk(p) || impl.TargetOk(p) != plainTargetOk(p) {
		t.Fatalf("SetText %q, SourceOk %v, TargetOk %v of %v", impl.SetText(p), impl.SourceOk(p), impl.TargetOk(p), p)
	}
	return true
}

// Promise 5: what may be written comes back from its text; what may be written may be run.
func wantPromise5(t *testing.T, p impl.Set) {
	t.Helper()
	again, at := impl.Parse(impl.SetText(p))
	if at != -1 || !plainSet(again, p) || !impl.TargetOk(p) || !impl.SourceOk(again) || impl.SetText(again) != impl.SetText(p) {
		t.Fatalf("SourceOk accepts %v; Parse of its text is %v, %d; TargetOk is %v", p, again, at, impl.TargetOk(p))
	}
}

func TestPromise5(t *testing.T) {
	d := dice(5)
	source, target, neither := 0, 0, 0
	for range 6000 {
		p, k := impl.Parse(joined(&d, drawWords(&d)))
		if k != -1 {
			continue
		}
		for i := range p.L {
			if p.L[i].Kind == impl.NkFor {
				p.L[i].N = 1 + d.below(impl.MaxTimes)
			}
		}
		if !wantPlainOk(t, p) {
			t.Fatalf("Parse gives no tree set: %v", p)
		}
		switch {
		case impl.SourceOk(p):
			source++
			wantPromise5(t, p)
		case impl.TargetOk(p):
			target++
		default:
			neither++
		}
	}
	if source < 1000 || target < 100 || neither < 100 {
		t.Error("too few of a kind:", source, target, neither)
	}
}

// drawPlace is a number of a node, mostly.
func drawPlace(d *dice, p impl.Set) int {
	if d.below(8) == 0 {
		return []int{-1, len(p.L), math.MinInt, math.MaxInt, -7}[d.below(5)]
	}
	return d.below(len(p.L))
}

func spoilNode(d *dice, p impl.Set) {
	x := &p.L[d.below(len(p.L))]
	switch d.below(7) {
	case 0:
		x.Kind = d.below(30) - 1
	case 1:
		x.S = []string{"", "x", "for", "$0", "X", "a-b", "abcdefghijklmnopqrstu"}[d.below(7)]
	case 2:
		x.N = []int{-1, 0, 1, 3, 4, 5, 1000000000}[d.below(7)]
	case 3:
		x.Kids = append(slices.Clone(x.Kids), drawPlace(d, p))
	case 4:
		x.Kids = x.Kids[:len(x.Kids)-min(1, len(x.Kids))]
	case 5:
		slices.Reverse(x.Kids)
	default:
		if len(x.Kids) > 0 {
			x.Kids[d.below(len(x.Kids))] = drawPlace(d, p)
		}
	}
}

// spoilSet does one thing to a copy of p that has nodes and procedures.
func spoilSet(d *dice, p impl.Set) impl.Set {
	p = copySet(p)
	i, j, k := d.below(len(p.L)), d.below(len(p.L)), d.below(len(p.Procs))
	switch d.below(12) {
	case 0:
		p.L[i].Kids, p.L[j].Kids = p.L[j].Kids, p.L[i].Kids
	case 1:
		p.L[i], p.L[j] = p.L[j], p.L[i]
	case 2:
		p.L = append(p.L[:i], p.L[i+1:]...)
	case 3:
		p.L = append(p.L, p.L[i])
	case 4:
		p.Procs[k].Body = drawPlace(d, p)
	case 5:
		p.Procs = append(p.Procs, p.Procs[k])
	case 6:
		p.Procs = append(p.Procs[:k], p.Procs[k+1:]...)
	case 7:
		p.Procs[k].Name = []string{"", "p", "x", "in", "P", "$1"}[d.below(6)]
	case 8:
		p.Procs[k].Params = []string{"a", "b", "a", "", "c"}[d.below(3) : 2+d.below(4)]
	default:
		spoilNode(d, p)
	}
	return p
}

func TestPromise5OfSpoiltSets(t *testing.T) {
	d := dice(505)
	source, target, tree, none := 0, 0, 0, 0
	for range 30000 {
		p, k := impl.Parse(joined(&d, drawWords(&d)))
		if k != -1 || len(p.Procs) == 0 {
			continue
		}
		for i := range p.L {
			p.L[i].N %= 5
		}
		p = spoilSet(&d, p)
		switch {
		case !wantPlainOk(t, p):
			none++
		case impl.SourceOk(p):
			source++
			wantPromise5(t, p)
		case impl.TargetOk(p):
			target++
		default:
			tree++
		}
	}
	if source < 1000 || target < 1000 || tree < 1000 || none < 5000 {
		t.Error("too few of a kind:", source, target, tree, none)
	}
}
