package tests

import (
	"math"
	"slices"
	"strconv"
	"strings"
	"testing"

	"loop.example/g00689/impl"
)

// wrongSrc has a node of each Kind, and more than one procedure.
const wrongSrc = "proc p(a, b) { x = read A[a + 1]; write B[x - 2] = -b; if (x * 3 < b / 4) { abort; y = x % 5; } else { return x == y; } for i in 3 { if (i) { } z = 6; } } proc q() { } proc r(c) { return c; }"

func TestWrongSourceIsRight(t *testing.T) {
	p := mustParse(t, wrongSrc)
	wantOk(t, wrongSrc, p, true, true)
	wantTree(t, wrongSrc, p)
	wantPromise5(t, p)
	for kind := range kidRoles {
		if !slices.ContainsFunc(p.L, func(x impl.Node) bool { return x.Kind == kind }) {
			t.Error("no node of Kind", kind)
		}
	}
}

// wrongly is the set of wrongSrc with one thing done to it.
func wrongly(t *testing.T, how func(p *impl.Set)) impl.Set {
	t.Helper()
	p := mustParse(t, wrongSrc)
	how(&p)
	return p
}

func TestNoTreeByKidsThatAreNoNodes(t *testing.T) {
	for k, x := range mustParse(t, wrongSrc).L {
		for i := range x.Kids {
			for _, kid := range []int{-1, -2, math.MinInt, k, k + 1, len(mustParse(t, wrongSrc).L) - 1, len(mustParse(t, wrongSrc).L), 1000, math.MaxInt} {
				if kid > k-1 || kid < 0 {
					wantNoTree(t, "a kid that is not ahead", wrongly(t, func(p *impl.Set) { p.L[k].Kids[i] = kid }))
				}
			}
		}
	}
	// Two that are each other's kids, and one that is its own.
	circle := impl.Set{L: []impl.Node{kidsNode(impl.NkNeg, 1), kidsNode(impl.NkNeg, 0), kidsNode(impl.NkBlock)}, Procs: []impl.Proc{{Name: "p", Body: 2}}}
	wantNoTree(t, "a circle", circle)
	circle.L[0].Kids[0], circle.L[1].Kids[0] = 0, 1
	wantNoTree(t, "two circles", circle)
	// The same nodes, with their kids behind them.
	wantNoTree(t, "a block ahead of its statement", impl.Set{L: []impl.Node{kidsNode(impl.NkBlock, 1), kidsNode(impl.NkAbort)}, Procs: []impl.Proc{{Name: "p", Body: 0}}})
	wantNoTree(t, "a return ahead of its number", impl.Set{L: []impl.Node{kidsNode(impl.NkReturn, 1), numNode(1), kidsNode(impl.NkBlock, 0)}, Procs: []impl.Proc{{Name: "p", Body: 2}}})
}

// roleSet gives each kid a node of its own, of the role that is asked for: e, s, b, or n for a Kind that is none.
func roleSet(kind int, roles string) impl.Set {
	var nodes []impl.Node
	var kids []int
	for _, role := range roles {
		kids = append(kids, len(nodes))
		nodes = append(nodes, kidsNode(map[rune]int{'e': impl.NkNum, 's': impl.NkAbort, 'b': impl.NkBlock, 'n': 99}[role]))
	}
	nodes = append(nodes, nodeOf(kind, "x", 1, kids...))
	if kind == impl.NkBlock {
		return bodySet(nodes...)
	}
	if kind <= impl.NkSame {
		nodes = append(nodes, kidsNode(impl.NkReturn, len(nodes)-1))
	}
	return bodySet(append(nodes, kidsNode(impl.NkBlock, len(nodes)-1))...)
}

func allRoles(n int) []string {
	if n == 0 {
		return []string{""}
	}
	var l []string
	for _, ahead := range allRoles(n - 1) {
		for _, role := range []string{"e", "s", "b", "n"} {
			l = append(l, ahead+role)
		}
	}
	return l
}

// For each Kind all kids that it might have, of all roles: too few, too many, and each in the wrong place.
func TestNoTreeByNumbersAndRolesOfKids(t *testing.T) {
	right := 0
	for kind, ways := range kidRoles {
		for n := range 5 {
			for _, roles := range allRoles(n) {
				ok := slices.Contains(ways, roles) || ways[0] == "*" && strings.Trim(roles, "s") == ""
				what := "Kind " + strconv.Itoa(kind) + " with kids " + roles
				if ok {
					right++
					wantTree(t, what, roleSet(kind, roles))
					if !impl.TargetOk(roleSet(kind, roles)) {
						t.Error(what, "may not be run")
					}
				} else {
					wantNoTree(t, what, roleSet(kind, roles))
				}
			}
		}
	}
	if right != len(kidRoles)+1+4 {
		t.Error("so many were right:", right)
	}
}

func TestNoTreeByKinds(t *testing.T) {
	for _, kind := range []int{math.MinInt, -1, 10, 11, 15, 19, 28, 29, 100, math.MaxInt} {
		for k := range mustParse(t, wrongSrc).L {
			wantNoTree(t, "Kind "+strconv.Itoa(kind), wrongly(t, func(p *impl.Set) { p.L[k].Kind = kind }))
		}
	}
	// A Kind of another role, with as many kids.
	same := map[string][]int{
		"":   {impl.NkNum, impl.NkAbort, impl.NkBlock},
		"e":  {impl.NkNeg, impl.NkReturn},
		"ee": {impl.NkAdd, impl.NkSame, impl.NkWrite},
	}
	p := mustParse(t, wrongSrc)
	for k, x := range p.L {
		for roles, kinds := range same {
			for _, kind := range kinds {
				if kidRoles[x.Kind][0] == roles && (kind <= impl.NkSame) != (x.Kind <= impl.NkSame) {
					wantNoTree(t, "Kind "+strconv.Itoa(kind)+" in the place of "+strconv.Itoa(x.Kind), wrongly(t, func(p *impl.Set) { p.L[k].Kind = kind }))
				}
			}
		}
	}
}

func TestNoTreeByOwners(t *testing.T) {
	abort, block := kidsNode(impl.NkAbort), kidsNode(impl.NkBlock)
	one := []impl.Proc{{Name: "p", Body: 1}}
	for what, p := range map[string]impl.Set{
		"a statement twice in a block":        {L: []impl.Node{abort, kidsNode(impl.NkBlock, 0, 0)}, Procs: one},
		"a statement in two blocks":           {L: []impl.Node{abort, kidsNode(impl.NkBlock, 0), kidsNode(impl.NkBlock, 0)}, Procs: []impl.Proc{{Name: "p", Body: 1}, {Name: "q", Body: 2}}},
		"a number twice in a sum":             returnSet(numNode(1), kidsNode(impl.NkAdd, 0, 0)),
		"a number in two":                     bodySet(numNode(1), kidsNode(impl.NkReturn, 0), kidsNode(impl.NkReturn, 0), kidsNode(impl.NkBlock, 1, 2)),
		"a block twice in a choice":           bodySet(numNode(1), block, kidsNode(impl.NkIf, 0, 1, 1), kidsNode(impl.NkBlock, 2)),
		"a block in two loops":                bodySet(block, kidsNode(impl.NkFor, 0), kidsNode(impl.NkFor, 0), kidsNode(impl.NkBlock, 1, 2)),
		"a Body of two procedures":            {L: []impl.Node{block}, Procs: []impl.Proc{{Name: "p"}, {Name: "q"}}},
		"a Body that is a kid":                {L: []impl.Node{block, nodeOf(impl.NkFor, "i", 1, 0), kidsNode(impl.NkBlock, 1)}, Procs: []impl.Proc{{Name: "p", Body: 2}, {Name: "q", Body: 0}}},
		"a number of none":                    {L: []impl.Node{numNode(1), block}, Procs: one},
		"a statement of none":                 {L: []impl.Node{abort, block}, Procs: one},
		"a block of none":                     {L: []impl.Node{block, block}, Procs: one},
		"a block of none behind":              {L: []impl.Node{block, block}, Procs: []impl.Proc{{Name: "p", Body: 0}}},
		"a whole tree of none":                {L: []impl.Node{block, abort, kidsNode(impl.NkBlock, 1)}, Procs: []impl.Proc{{Name: "p", Body: 0}}},
		"nodes and no procedure":              {L: []impl.Node{block}},
		"a procedure and no nodes":            {Procs: []impl.Proc{{Name: "p"}}},
		"one of two owners and one of none":   {L: []impl.Node{abort, abort, kidsNode(impl.NkBlock, 0, 0)}, Procs: []impl.Proc{{Name: "p", Body: 2}}},
		"a kid of a node that nobody owns":    {L: []impl.Node{numNode(1), kidsNode(impl.NkReturn, 0), block}, Procs: []impl.Proc{{Name: "p", Body: 2}}},
		"a node that is kid of two, far away": {L: append(flatSet(100).L, kidsNode(impl.NkBlock, 50)), Procs: []impl.Proc{{Name: "p", Body: 99}, {Name: "q", Body: 100}}},
	} {
		wantNoTree(t, what, p)
	}
	n := len(mustParse(t, wrongSrc).L)
	for k := range n {
		wantNoTree(t, "a node more", wrongly(t, func(p *impl.Set) { p.L = append(p.L, p.L[k]) }))
	}
	wantNoTree(t, "the last node away", wrongly(t, func(p *impl.Set) { p.L = p.L[:n-1] }))
	wantNoTree(t, "a procedure away", wrongly(t, func(p *impl.Set) { p.Procs = p.Procs[:2] }))
	wantNoTree(t, "all procedures away", wrongly(t, func(p *impl.Set) { p.Procs = nil }))
	wantNoTree(t, "all nodes away", wrongly(t, func(p *impl.Set) { p.L = nil }))
	wantNoTree(t, "very many kids", wrongly(t, func(p *impl.Set) { p.L[n-1].Kids = make([]int, 1000000) }))
}

func TestNoTreeByBodies(t *testing.T) {
	p := mustParse(t, wrongSrc)
	for i, proc := range p.Procs {
		for k := -2; k < len(p.L)+2; k++ {
			if k != proc.Body {
				wantNoTree(t, "Body "+strconv.Itoa(k), wrongly(t, func(p *impl.Set) { p.Procs[i].Body = k }))
			}
		}
		for _, k := range []int{math.MinInt, math.MaxInt} {
			wantNoTree(t, "Body "+strconv.Itoa(k), wrongly(t, func(p *impl.Set) { p.Procs[i].Body = k }))
		}
	}
	wantNoTree(t, "a Body that is a number", impl.Set{L: []impl.Node{numNode(1)}, Procs: []impl.Proc{{Name: "p"}}})
	wantNoTree(t, "a Body that is a statement", impl.Set{L: []impl.Node{kidsNode(impl.NkAbort)}, Procs: []impl.Proc{{Name: "p"}}})
	wantNoTree(t, "a Body that is of no Kind", impl.Set{L: []impl.Node{kidsNode(99)}, Procs: []impl.Proc{{Name: "p"}}})
	// Bodies that change places are bodies still; the text comes back with its nodes in another order.
	swapped := wrongly(t, func(p *impl.Set) { p.Procs[0].Body, p.Procs[2].Body = p.Procs[2].Body, p.Procs[0].Body })
	wantTree(t, "swapped", swapped)
	wantOk(t, "swapped", swapped, false, true)
}

// Kids that change places within a statement are a tree set still, if their roles are the same.
func TestTreeWithKidsInOtherPlaces(t *testing.T) {
	for k, x := range mustParse(t, wrongSrc).L {
		if len(x.Kids) < 2 {
			continue
		}
		p := wrongly(t, func(p *impl.Set) { slices.Reverse(p.L[k].Kids) })
		if x.Kind == impl.NkIf {
			wantNoTree(t, "a choice the other way round", p)
		} else {
			wantTree(t, "kids the other way round", p)
			wantOk(t, "kids the other way round", p, false, true)
		}
	}
}

// badNames would not be read back as one name.
var badNames = []string{"", "_", "1", "1a", "A", "aB", "B", "x ", " x", "x y", "x,y", "x\n", "$0", "$12", "a$", "ä", "\x00", "\xff", "x-1", "#", "abcdefghijklmnopqrstu", "x) { } proc y(", "x; y",
	"proc", "read", "write", "if", "else", "for", "in", "abort", "return"}

// What is no name may be run under it, and can't be written.
func TestOkNames(t *testing.T) {
	p := mustParse(t, wrongSrc)
	for _, bad := range badNames {
		for k, proc := range p.Procs {
			wantOk(t, "Name "+bad, wrongly(t, func(p *impl.Set) { p.Procs[k].Name = bad }), false, true)
			for i := range proc.Params {
				wantOk(t, "Param "+bad, wrongly(t, func(p *impl.Set) { p.Procs[k].Params[i] = bad }), false, true)
			}
		}
		for k, x := range p.L {
			if x.S != "" {
				wantOk(t, "S "+bad, wrongly(t, func(p *impl.Set) { p.L[k].S = bad }), false, true)
			} else if bad != "" {
				wantOk(t, "S that is not told", wrongly(t, func(p *impl.Set) { p.L[k].S = bad }), false, true)
			}
		}
	}
	for _, good := range []string{"z", "abcdefghijklmnopqrst", "a_", "z9", "fors", "inn"} {
		for k, x := range p.L {
			if x.S != "" {
				wantOk(t, "S "+good, wrongly(t, func(p *impl.Set) { p.L[k].S = good }), true, true)
			}
		}
		for k := range p.Procs {
			wantOk(t, "Name "+good, wrongly(t, func(p *impl.Set) { p.Procs[k].Name = good }), true, true)
		}
	}
}

func TestOkNamesThatAreTheSame(t *testing.T) {
	for i := range impl.MaxProcs {
		for j := range i {
			p := procsSet(impl.MaxProcs)
			p.Procs[i].Name = p.Procs[j].Name
			wantOk(t, "two Names that are the same", p, false, true)
		}
	}
	for i := range impl.MaxParams {
		for j := range i {
			for k := range impl.MaxProcs {
				p := procsSet(impl.MaxProcs)
				p.Procs[k].Params = []string{"a", "b", "c"}
				wantOk(t, "three Params", p, true, true)
				p.Procs[k].Params[i] = p.Procs[k].Params[j]
				wantOk(t, "two Params that are the same", p, false, true)
			}
		}
	}
	// A Param may have the name of a procedure, or of another one's Param.
	p := procsSet(3)
	p.Procs[0].Params = []string{"p0", "p1"}
	p.Procs[1].Params = []string{"p0", "p1", "a"}
	wantOk(t, "Params of two", p, true, true)
}

// What a text would name otherwise: a number below 0, one of too many digits, a field that Parse leaves at 0.
func TestOkNumbers(t *testing.T) {
	p := mustParse(t, wrongSrc)
	for k, x := range p.L {
		switch x.Kind {
		case impl.NkNum:
			for _, n := range []int{0, 1, 999999999} {
				wantOk(t, "a number", wrongly(t, func(p *impl.Set) { p.L[k].N = n }), true, true)
			}
			for _, n := range []int{-1, math.MinInt, 1000000000, math.MaxInt} {
				wantOk(t, "a number of no text", wrongly(t, func(p *impl.Set) { p.L[k].N = n }), false, true)
			}
		case impl.NkRead, impl.NkWrite, impl.NkFor:
		default:
			for _, n := range []int{-1, 1, 4} {
				wantOk(t, "a number that is not told", wrongly(t, func(p *impl.Set) { p.L[k].N = n }), false, true)
			}
		}
	}
}
