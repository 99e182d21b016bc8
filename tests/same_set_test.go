package tests

import (
	"math"
	"testing"

	"loop.example/g00689/impl"
)

func sampleSet() impl.Set {
	return impl.Set{
		L:     []impl.Node{varNode("a"), numNode(3), kidsNode(impl.NkAdd, 0, 1), nodeOf(impl.NkRead, "x", 2, 2), kidsNode(impl.NkBlock, 3), kidsNode(impl.NkAbort), kidsNode(impl.NkBlock, 5)},
		Procs: []impl.Proc{{Name: "p", Params: []string{"a", "b"}, Body: 4}, {Name: "q", Body: 6}},
	}
}

// changed is the sample with one thing done to it.
func changed(how func(p *impl.Set)) impl.Set {
	p := sampleSet()
	how(&p)
	return p
}

func TestSameSet(t *testing.T) {
	same := map[string]impl.Set{
		"in other memory": sampleSet(),
		"empty Kids":      changed(func(p *impl.Set) { p.L[0].Kids = []int{}; p.L[5].Kids = []int{} }),
		"Kids nil":        changed(func(p *impl.Set) { p.L[0].Kids = nil; p.L[1].Kids = nil; p.L[5].Kids = nil }),
		"empty Params":    changed(func(p *impl.Set) { p.Procs[1].Params = []string{} }),
		"with spare room": roomySet(sampleSet()),
	}
	for how, p := range same {
		if !impl.SameSet(p, sampleSet()) || !impl.SameSet(sampleSet(), p) || !impl.SameSet(p, p) {
			t.Error("is the same:", how)
		}
	}
	empty := impl.Set{L: []impl.Node{}, Procs: []impl.Proc{}}
	if !impl.SameSet(impl.Set{}, impl.Set{}) || !impl.SameSet(empty, impl.Set{}) || !impl.SameSet(impl.Set{}, empty) {
		t.Error("no node and no procedure")
	}
}

func TestSameSetOfOthers(t *testing.T) {
	others := map[string]impl.Set{
		"no set":               {},
		"a Kind":               changed(func(p *impl.Set) { p.L[2].Kind = impl.NkSub }),
		"the last Kind":        changed(func(p *impl.Set) { p.L[6].Kind = impl.NkIf }),
		"an S":                 changed(func(p *impl.Set) { p.L[0].S = "b" }),
		"an S that is empty":   changed(func(p *impl.Set) { p.L[3].S = "" }),
		"an N":                 changed(func(p *impl.Set) { p.L[1].N = 4 }),
		"another N":            changed(func(p *impl.Set) { p.L[3].N = -2 }),
		"the greatest N":       changed(func(p *impl.Set) { p.L[3].N = math.MaxInt }),
		"a kid":                changed(func(p *impl.Set) { p.L[4].Kids[0] = 2 }),
		"kids the other way":   changed(func(p *impl.Set) { p.L[2].Kids = []int{1, 0} }),
		"fewer kids":           changed(func(p *impl.Set) { p.L[2].Kids = p.L[2].Kids[:1] }),
		"more kids":            changed(func(p *impl.Set) { p.L[4].Kids = []int{3, 0} }),
		"no kids":              changed(func(p *impl.Set) { p.L[4].Kids = nil }),
		"kids of none":         changed(func(p *impl.Set) { p.L[0].Kids = []int{0} }),
		"nodes the other way":  changed(func(p *impl.Set) { p.L[0], p.L[1] = p.L[1], p.L[0] }),
		"fewer nodes":          changed(func(p *impl.Set) { p.L = p.L[:6] }),
		"more nodes":           changed(func(p *impl.Set) { p.L = append(p.L, impl.Node{}) }),
		"no nodes":             changed(func(p *impl.Set) { p.L = nil }),
		"a Name":               changed(func(p *impl.Set) { p.Procs[1].Name = "r" }),
		"a Body":               changed(func(p *impl.Set) { p.Procs[0].Body = 6 }),
		"a Param":              changed(func(p *impl.Set) { p.Procs[0].Params[1] = "c" }),
		"Params the other way": changed(func(p *impl.Set) { p.Procs[0].Params = []string{"b", "a"} }),
		"fewer Params":         changed(func(p *impl.Set) { p.Procs[0].Params = []string{"a"} }),
		"more Params":          changed(func(p *impl.Set) { p.Procs[1].Params = []string{""} }),
		"procs the other way":  changed(func(p *impl.Set) { p.Procs[0], p.Procs[1] = p.Procs[1], p.Procs[0] }),
		"fewer procs":          changed(func(p *impl.Set) { p.Procs = p.Procs[:1] }),
		"more procs":           changed(func(p *impl.Set) { p.Procs = append(p.Procs, impl.Proc{}) }),
		"no procs":             changed(func(p *impl.Set) { p.Procs = nil }),
	}
	for how, p := range others {
		if impl.SameSet(p, sampleSet()) || impl.SameSet(sampleSet(), p) || !impl.SameSet(p, p) {
			t.Error("is another one:", how)
		}
	}
}

// Nothing is asked of the nodes but that they are the same.
func TestSameSetOfNoTrees(t *testing.T) {
	odd := func() impl.Set {
		return impl.Set{L: []impl.Node{{Kind: -1, S: "\xff", N: math.MinInt, Kids: []int{0, -5, math.MaxInt}}}, Procs: []impl.Proc{{Name: "\x00", Params: []string{"", ""}, Body: -9}}}
	}
	other := odd()
	other.L[0].Kids[1] = -6
	if !impl.SameSet(odd(), odd()) || impl.SameSet(odd(), other) {
		t.Error("sets of no tree")
	}
}
