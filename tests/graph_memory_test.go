package tests

import (
	"slices"
	"testing"

	"loop.example/g00689/impl"
)

// guardedSrc has marks at the beginning and behind, so that rows of several accesses are the same.
const guardedSrc = "proc p(a) { write D[3] = 1; write D[1] = 1; x = read A[a]; write D[2] = 1; write A[a] = x; y = read A[0]; if (y) { write A[1] = y; write D[7] = 1; write D[5] = 1; } write D[6] = 1; }" +
	" proc q(b) { x = read A[b]; write D[1] = 1; write B[0] = x; write A[b] = b; } proc r() { } proc s() { x = read A[0]; x = read B[0]; write B[0] = 1; }"

func sameAccess(x, y impl.Access) bool {
	return x.Node == y.Node && x.Write == y.Write && x.T == y.T && x.Const == y.Const && x.R == y.R && x.Same == y.Same && slices.Equal(x.Rows, y.Rows)
}

func copyAccesses(l []impl.Access) []impl.Access {
	c := slices.Clone(l)
	for i := range c {
		c[i].Rows = slices.Clone(c[i].Rows)
	}
	return c
}

func TestGuardedSource(t *testing.T) {
	p := conflictsOf(t, guardedSrc)
	wantAccesses(t, p, 0, "write #[3] 1 3", "write #[1] 1 3", "read A[?] same 1 2 3", "write #[2] 1 3", "write A[?] 1 3", "read A[0] 1 3", "write A[1] 1 3 5 7", "write #[7] 1 3 5", "write #[5] 1 3", "write #[6] 1 3")
	wantAccesses(t, p, 1, "read A[?] 1", "write #[1]", "write B[0]", "write A[?]")
	wantAccesses(t, p, 2)
	wantAccesses(t, p, 3, "read A[0]", "read B[0]", "write B[0]")
	wantEdges(t, p, "00 01 10 11 30 31 33 / 00 01 03 10 11 13 30 31 33 / 01 11 30 31 33 / 00 01 03 10 11 13 22 30 31 33", "011 111 301 311 330 331 333", "010 110 300 310 330")
}

// graphCalls asks for all of a set.
func graphCalls(p impl.Set) {
	for a := -1; a <= len(p.Procs); a++ {
		impl.Accesses(p, a)
		for b := -1; b <= len(p.Procs); b++ {
			impl.Rw(p, a, b)
			impl.Dep(p, a, b)
			impl.Vuln(p, a, b)
			impl.Reaches(p, a, b)
		}
	}
	impl.Dangers(p)
	impl.VulnList(p)
}

func TestGraphWritesNowhere(t *testing.T) {
	good := conflictsOf(t, guardedSrc)
	wrong := copySet(good)
	wrong.L[0].Kind = 99
	for _, want := range []impl.Set{good, wrong, onlyProc(good, 0), mustParse(t, crossSrc), {}} {
		p := roomySet(want)
		graphCalls(p)
		if !plainSet(p, want) || !setSpareKept(p) {
			t.Errorf("a set is written into: %v", p)
		}
	}
}

func TestOverlapAndCoveredWriteNowhere(t *testing.T) {
	lists := [][]int{nil, {1}, {3, 1, 2}, {2, 2, 0}, {9, 8, 7, 6, 5, 4, 3, 2, 1, 0, -1, -2, -3}}
	for _, a := range lists {
		for _, b := range lists {
			x := impl.Access{Node: 1, T: 1, R: 5, Rows: roomy(a, -77)}
			y := impl.Access{Node: 2, T: 1, Const: true, Rows: roomy(b, -77)}
			impl.Overlap(x, y)
			impl.Covered(x, y)
			if !slices.Equal(x.Rows, a) || !slices.Equal(y.Rows, b) || !spareKept(x.Rows, -77) || !spareKept(y.Rows, -77) {
				t.Errorf("Rows are written into: %v, %v", x.Rows, y.Rows)
			}
		}
	}
}

func TestAccessesShareNothing(t *testing.T) {
	listed := 0
	for k := range 4 {
		p := roomySet(conflictsOf(t, guardedSrc))
		l := impl.Accesses(p, k)
		kept := copyAccesses(l)
		for i := range l {
			// With the spare room, in which another list might begin.
			fill(l[i].Rows, 31337)
			for j := range l {
				if j > i && !sameAccess(l[j], kept[j]) {
					t.Fatalf("procedure %d: the Rows of %d change with those of %d: %v", k, j, i, l[j].Rows)
				}
			}
			if len(kept[i].Rows) > 0 {
				listed++
			}
		}
		// Once more from the back, for a list that begins ahead of another one's end.
		l = impl.Accesses(p, k)
		for i := len(l) - 1; i >= 0; i-- {
			if !sameAccess(l[i], kept[i]) {
				t.Fatalf("procedure %d: the Rows of %d change with those of another one: %v", k, i, l[i].Rows)
			}
			fill(l[i].Rows, 31337)
		}
		fill(l, impl.Access{Node: 31337})
		if !plainSet(p, conflictsOf(t, guardedSrc)) || !setSpareKept(p) {
			t.Errorf("procedure %d: the set changes with the answer", k)
		}
		if again := impl.Accesses(p, k); !slices.EqualFunc(again, kept, sameAccess) {
			t.Errorf("procedure %d: the next answer changes with the one ahead: %v", k, again)
		}
		l = impl.Accesses(p, k)
		for i := range p.L {
			fill(p.L[i].Kids, 31337)
		}
		fill(p.L, numNode(31337))
		fill(p.Procs, impl.Proc{Body: 31337})
		if !slices.EqualFunc(l, kept, sameAccess) {
			t.Errorf("procedure %d: the answer changes with the set: %v", k, l)
		}
	}
	if listed < 10 {
		t.Error("too few had Rows:", listed)
	}
}

func TestDangersShareNothing(t *testing.T) {
	p := roomySet(conflictsOf(t, guardedSrc))
	for what, call := range map[string]func(impl.Set) []impl.Danger{"Dangers": impl.Dangers, "VulnList": impl.VulnList} {
		l := call(p)
		kept := slices.Clone(l)
		if len(kept) < 5 {
			t.Errorf("%s: too few: %v", what, kept)
		}
		other := call(p)
		fill(l, impl.Danger{A: 31337, B: 31337, C: 31337})
		if !slices.Equal(other, kept) || !slices.Equal(call(p), kept) {
			t.Errorf("%s: one answer changes with another one", what)
		}
		if !plainSet(p, conflictsOf(t, guardedSrc)) || !setSpareKept(p) {
			t.Errorf("%s: the set changes with the answer", what)
		}
	}
}

// What is told of a set hangs on nothing that was told of another one, nor on what its lists have room for.
func TestGraphKeepsNothing(t *testing.T) {
	sets := []impl.Set{conflictsOf(t, guardedSrc), mustParse(t, crossSrc), {}, mustParse(t, wrongSrc), onlyProc(mustParse(t, crossSrc), 1)}
	var want []string
	tell := func(p impl.Set) string {
		return edgesText(p) + " / " + dangersText(impl.Dangers(p)) + " / " + dangersText(impl.VulnList(p))
	}
	for _, p := range sets {
		want = append(want, tell(p))
	}
	for n := range 25 {
		i, j := n%len(sets), n/len(sets)
		graphCalls(sets[j])
		if got := tell(roomySet(sets[i])); got != want[i] {
			t.Errorf("set %d behind set %d: %q, not %q", i, j, got, want[i])
		}
	}
}
