package tests

import (
	"slices"
	"strings"
	"testing"

	"loop.example/g00689/impl"
)

// mendSrc is a set that may be written, with dangers, some of which are promoted and some marked.
const mendSrc = "proc p(a, b) { if (a) { x = read A[0]; write B[0] = x; } else { } for i in 2 { abort; } } proc q(c) { y = read B[0]; write A[0] = y + c; } proc r() { write A[0] = 1; } proc s() { z = read A[0]; return -z; }"

// mendCalls are calls of each kind that answers a set, some of which refuse.
func mendCalls() map[string]func(p impl.Set) (impl.Set, []impl.Mend) {
	calls := map[string]func(p impl.Set) (impl.Set, []impl.Mend){
		"Promote":                func(p impl.Set) (impl.Set, []impl.Mend) { q, _ := impl.Promote(p, 0, 1); return q, nil },
		"Promote towards itself": func(p impl.Set) (impl.Set, []impl.Mend) { q, _ := impl.Promote(p, 1, 1); return q, nil },
		"Promote of none":        func(p impl.Set) (impl.Set, []impl.Mend) { q, _ := impl.Promote(p, 4, 1); return q, nil },
		"Mark":                   func(p impl.Set) (impl.Set, []impl.Mend) { q, _ := impl.Mark(p, 0, 1); return q, nil },
		"Mark towards itself":    func(p impl.Set) (impl.Set, []impl.Mend) { q, _ := impl.Mark(p, 1, 1); return q, nil },
		"Mark towards none":      func(p impl.Set) (impl.Set, []impl.Mend) { q, _ := impl.Mark(p, 0, -1); return q, nil },
		"MarkAll":                func(p impl.Set) (impl.Set, []impl.Mend) { q, _ := impl.MarkAll(p); return q, nil },
	}
	for what, policy := range map[string]int{"Rewrite targeted": impl.PoTargeted, "Rewrite global": impl.PoGlobal, "Rewrite under none": 2} {
		calls[what] = func(p impl.Set) (impl.Set, []impl.Mend) { q, l, _ := impl.Rewrite(p, policy); return q, l }
	}
	return calls
}

// mendSets are sets of which some are refused, and some not changed.
func mendSets(t *testing.T) map[string]impl.Set {
	good := mustParse(t, mendSrc)
	wrong := copySet(good)
	wrong.L[0].Kind = 99
	marked, _ := impl.Mark(good, 0, 1)
	return map[string]impl.Set{"a good one": good, "a wrong one": wrong, "a marked one": marked, "another order": turned(good), "a calm one": mustParse(t, wrongSrc), "one": onlyProc(good, 1), "none": {}}
}

func TestMendSource(t *testing.T) {
	got, l, ok := impl.Rewrite(mustParse(t, mendSrc), impl.PoTargeted)
	if !ok || mendsText(l) != "M01 P10" || len(got.Procs) != 4 {
		t.Error(l, impl.SetText(got))
	}
}

func TestMendsWriteNowhere(t *testing.T) {
	for name, want := range mendSets(t) {
		for what, call := range mendCalls() {
			p := roomySet(want)
			call(p)
			if !plainSet(p, want) || !setSpareKept(p) {
				t.Errorf("%s of %s: the argument is written into: %v", what, name, p)
			}
		}
	}
}

// scribbleSet overwrites all of p, with the spare room behind each list.
func scribbleSet(p impl.Set) {
	for _, x := range p.L {
		fill(x.Kids, 31337)
	}
	for _, proc := range p.Procs {
		fill(proc.Params, "other")
	}
	fill(p.L, impl.Node{Kind: 31337})
	fill(p.Procs, impl.Proc{Name: "other"})
}

func TestMendsShareNothingWithTheArgument(t *testing.T) {
	for name, want := range mendSets(t) {
		for what, call := range mendCalls() {
			p := roomySet(want)
			got, l := call(p)
			kept, mends := copySet(got), slices.Clone(l)
			scribbleSet(p)
			if !plainSet(got, kept) {
				t.Errorf("%s of %s: the answer changes with the argument", what, name)
			}
			p = roomySet(want)
			got, l = call(p)
			scribbleSet(got)
			fill(l, impl.Mend{Kind: 31337})
			if !plainSet(p, want) || !setSpareKept(p) {
				t.Errorf("%s of %s: the argument changes with the answer", what, name)
			}
			if again, m := call(p); !plainSet(again, kept) || !slices.Equal(m, mends) {
				t.Errorf("%s of %s: the next answer changes with the one ahead", what, name)
			}
		}
	}
}

// wantListsApart asks that no list of p changes with another one, nor with its spare room.
func wantListsApart(t *testing.T, what string, p impl.Set) {
	t.Helper()
	want := copySet(p)
	for i := range p.L {
		fill(p.L[i].Kids, 31337)
		want.L[i].Kids = slices.Repeat([]int{31337}, len(want.L[i].Kids))
		if !plainSet(p, want) {
			t.Fatalf("%s: the kids of node %d share memory with others", what, i)
		}
	}
	for i := range p.Procs {
		fill(p.Procs[i].Params, "other")
		want.Procs[i].Params = slices.Repeat([]string{"other"}, len(want.Procs[i].Params))
		if !plainSet(p, want) {
			t.Fatalf("%s: the params of procedure %d share memory with others", what, i)
		}
	}
}

func TestMendsListsShareNothing(t *testing.T) {
	for name, p := range mendSets(t) {
		for what, call := range mendCalls() {
			got, _ := call(p)
			wantListsApart(t, what+" of "+name, got)
		}
	}
}

func textsOf(p impl.Set) []string {
	var l []string
	for _, x := range p.L {
		l = append(l, x.S)
	}
	for _, proc := range p.Procs {
		l = append(append(l, proc.Name), proc.Params...)
	}
	return l
}

func TestMendsTextsAreNewMemory(t *testing.T) {
	for name, p := range mendSets(t) {
		p = copySet(p)
		for i := range p.L {
			p.L[i].S = strings.Clone(p.L[i].S)
		}
		old := textsOf(p)
		for what, call := range mendCalls() {
			got, _ := call(p)
			for _, text := range textsOf(got) {
				if slices.ContainsFunc(old, func(s string) bool { return text != "" && s != "" && inside(text, s) }) {
					t.Fatalf("%s of %s: %q shares the memory of the argument's", what, name, text)
				}
			}
		}
	}
}

// What is mended hangs on nothing that was mended ahead.
func TestMendsKeepNothing(t *testing.T) {
	sets, calls := mendSets(t), mendCalls()
	want := map[string]impl.Set{}
	mends := map[string][]impl.Mend{}
	for name, p := range sets {
		for what, call := range calls {
			want[what+name], mends[what+name] = call(p)
		}
	}
	// A map is gone through in another order each time.
	for range 5 {
		for what, call := range calls {
			for name, p := range sets {
				if got, l := call(roomySet(p)); !plainSet(got, want[what+name]) || !slices.Equal(l, mends[what+name]) {
					t.Errorf("%s of %s is another one now: %v, %v", what, name, got, l)
				}
			}
		}
	}
}
