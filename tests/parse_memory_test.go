package tests

import (
	"slices"
	"strings"
	"testing"

	"loop.example/g00689/impl"
)

const spareKid = -77
const spareText = "spare"

func roomySet(p impl.Set) impl.Set {
	r := impl.Set{L: roomy(p.L, numNode(spareKid)), Procs: roomy(p.Procs, impl.Proc{Body: spareKid})}
	for i := range r.L {
		r.L[i].Kids = roomy(r.L[i].Kids, spareKid)
	}
	for i := range r.Procs {
		r.Procs[i].Params = roomy(r.Procs[i].Params, spareText)
	}
	return r
}

func setSpareKept(p impl.Set) bool {
	for _, x := range p.L {
		if !spareKept(x.Kids, spareKid) {
			return false
		}
	}
	for _, proc := range p.Procs {
		if !spareKept(proc.Params, spareText) {
			return false
		}
	}
	for _, x := range p.L[len(p.L):cap(p.L)] {
		if !plainNode(x, numNode(spareKid)) {
			return false
		}
	}
	for _, proc := range p.Procs[len(p.Procs):cap(p.Procs)] {
		if !plainProc(proc, impl.Proc{Body: spareKid}) {
			return false
		}
	}
	return true
}

// copySet has each list of p again, in memory of its own.
func copySet(p impl.Set) impl.Set {
	c := impl.Set{L: slices.Clone(p.L), Procs: slices.Clone(p.Procs)}
	for i := range c.L {
		c.L[i].Kids = slices.Clone(c.L[i].Kids)
	}
	for i := range c.Procs {
		c.Procs[i].Params = slices.Clone(c.Procs[i].Params)
	}
	return c
}

const memorySrc = "proc p(a, b, c) { x = read A[a + 1]; if (x < b) { abort; y = 2; y = -3; } else { } write B[c] = x * 2; } proc q(d) { for i in 3 { return d; } } proc r() { }"

func TestSameSetWritesNowhere(t *testing.T) {
	a, b := roomySet(sampleSet()), roomySet(sampleSet())
	impl.SameSet(a, b)
	impl.SameSet(a, a)
	impl.SameSet(b, impl.Set{})
	if !plainSet(a, sampleSet()) || !plainSet(b, sampleSet()) || !setSpareKept(a) || !setSpareKept(b) {
		t.Error("SameSet writes into an argument:", a, b)
	}
}

func TestParseTextsAreNewMemory(t *testing.T) {
	s := strings.Clone(memorySrc)
	p, _ := impl.Parse(s)
	for _, x := range p.L {
		if x.S != "" && inside(x.S, s) {
			t.Errorf("%q shares the memory of the text", x.S)
		}
	}
	for _, proc := range p.Procs {
		for _, text := range append([]string{proc.Name}, proc.Params...) {
			if inside(text, s) {
				t.Errorf("%q shares the memory of the text", text)
			}
		}
	}
}

func TestParseListsShareNothing(t *testing.T) {
	p, _ := impl.Parse(memorySrc)
	want := copySet(p)
	for i := range p.L {
		fill(p.L[i].Kids, 31337)
		want.L[i].Kids = slices.Repeat([]int{31337}, len(want.L[i].Kids))
		if !plainSet(p, want) {
			t.Fatalf("the kids of node %d share memory with others", i)
		}
	}
	for i := range p.Procs {
		fill(p.Procs[i].Params, "other")
		want.Procs[i].Params = slices.Repeat([]string{"other"}, len(want.Procs[i].Params))
		if !plainSet(p, want) {
			t.Fatalf("the params of procedure %d share memory with others", i)
		}
	}
}

func TestParseKeepsNothing(t *testing.T) {
	first, _ := impl.Parse(memorySrc)
	want := copySet(first)
	for i := range first.L {
		fill(first.L[i].Kids, 31337)
	}
	for i := range first.Procs {
		fill(first.Procs[i].Params, "other")
	}
	fill(first.L, impl.Node{Kind: 31337})
	fill(first.Procs, impl.Proc{Name: "other"})
	wantStuck(t, "proc p() { x = ((((-(", len("proc p() { x = ((((-("))
	wantSet(t, memorySrc, want)
}
