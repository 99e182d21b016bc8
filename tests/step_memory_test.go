package tests

import (
	"slices"
	"strings"
	"testing"

	"loop.example/g00689/impl"
)

var spareFrame = impl.Frame{At: -77, I: -77}

func roomyCur(c impl.Cur) impl.Cur {
	return impl.Cur{Proc: c.Proc, Vars: roomy(c.Vars, spareVar), Stack: roomy(c.Stack, spareFrame)}
}

func curSpareKept(c impl.Cur) bool {
	return spareKept(c.Vars, spareVar) && spareKept(c.Stack, spareFrame)
}

func copyCur(c impl.Cur) impl.Cur {
	return impl.Cur{Proc: c.Proc, Vars: slices.Clone(c.Vars), Stack: slices.Clone(c.Stack)}
}

func scribbleCur(c impl.Cur) {
	fill(c.Vars, impl.Var{Name: "other", Val: 31337})
	fill(c.Stack, impl.Frame{At: 31337, I: 31337})
}

const stepSrc = "proc p(a, b) { x = a; y = read A[a]; write A[a] = x + b; if (b) { z = 1; } else { } if (0) { } for i in 2 { if (i) { n = n + i; } } return x / b; }" +
	" proc q() { } proc r() { abort; } proc s() { x = 1; return 1 % 0; }"

// stepCurs are all that stand ahead of a step of a procedure of stepSrc, and some that are not CurOk.
func stepCurs(t *testing.T) []impl.Cur {
	t.Helper()
	p := mustParse(t, stepSrc)
	var curs []impl.Cur
	for k, proc := range p.Procs {
		args := make([]int, len(proc.Params))
		c := mustStart(t, serial{p: p, k: k, args: args})
		for ok := true; ok && len(curs) < maxTraced; c, ok = impl.Go(p, c, 4) {
			curs = append(curs, copyCur(c))
		}
	}
	all := []impl.Cur{{}, {Proc: 9}}
	for _, c := range curs {
		all = append(all, c, impl.Cur{Proc: c.Proc, Vars: c.Vars, Stack: slices.Concat(c.Stack, c.Stack)}, impl.Cur{Proc: c.Proc, Vars: slices.Concat(c.Vars, c.Vars), Stack: c.Stack})
	}
	if len(curs) < 15 {
		t.Fatal("too few:", len(curs))
	}
	return all
}

func TestStepsWriteNowhere(t *testing.T) {
	good := mustParse(t, stepSrc)
	wrong := copySet(good)
	wrong.L[0].Kind = 99
	for _, want := range []impl.Set{good, wrong, {}} {
		p := roomySet(want)
		for _, wantCur := range stepCurs(t) {
			c := roomyCur(wantCur)
			impl.CurOk(p, c)
			impl.Next(p, c)
			impl.Go(p, c, 4)
			if !sameCur(c, wantCur) || !curSpareKept(c) {
				t.Errorf("a Cur is written into: %v, not %v", c, wantCur)
			}
		}
		for _, wantArgs := range [][]int{nil, {1, 5}, {2, -1}, {1, 0}, {1}, {1, 2, 3}} {
			args, state := roomy(wantArgs, -77), roomy(serialRows(), spareRow)
			for k := -1; k <= len(p.Procs); k++ {
				impl.CurNew(p, k, args)
				impl.StepsAlone(p, k, args, state)
			}
			if !slices.Equal(args, wantArgs) || !spareKept(args, -77) || !sameRows(state, serialRows()) || !spareKept(state, spareRow) {
				t.Errorf("an argument is written into: %v, %v", args, state)
			}
		}
		if !plainSet(p, want) || !setSpareKept(p) {
			t.Errorf("a set is written into: %v", p)
		}
	}
}

func TestGoSharesNothingWithAnArgument(t *testing.T) {
	p := mustParse(t, stepSrc)
	answered := 0
	for _, want := range stepCurs(t) {
		c := roomyCur(want)
		after, ok := impl.Go(p, c, 4)
		if !ok {
			continue
		}
		answered++
		kept := copyCur(after)
		scribbleCur(c)
		if !sameCur(after, kept) {
			t.Errorf("behind %v: the answer changes with the argument: %v", want, after)
		}
		c = roomyCur(want)
		after, _ = impl.Go(p, c, 4)
		scribbleCur(after)
		if !sameCur(c, want) || !curSpareKept(c) {
			t.Errorf("the argument changes with the answer: %v, not %v", c, want)
		}
		if again, _ := impl.Go(p, c, 4); !sameCur(again, kept) {
			t.Errorf("the next answer changes with the one ahead: %v, not %v", again, kept)
		}
	}
	if answered < 12 {
		t.Error("too few went on:", answered)
	}
}

func TestCurNewSharesNothingWithAnArgument(t *testing.T) {
	p, args := mustParse(t, stepSrc), []int{3, 4}
	c, _ := impl.CurNew(p, 0, args)
	kept := copyCur(c)
	args[0] = 31337
	fill(p.Procs[0].Params, "other")
	if !sameCur(c, kept) {
		t.Error("the answer changes with the argument:", c)
	}
	p, args = mustParse(t, stepSrc), []int{3, 4}
	c, _ = impl.CurNew(p, 0, args)
	scribbleCur(c)
	if again, ok := impl.CurNew(p, 0, args); !ok || !sameCur(again, kept) || args[0] != 3 {
		t.Error("the argument, or the next answer, changes with the answer:", again, args)
	}
}

func TestStepsAloneRowsShareNothing(t *testing.T) {
	p := mustParse(t, stepSrc)
	for k, args := range [][]int{{1, 5}, nil, nil, nil} {
		l := roomy(serialRows(), spareRow)
		_, got, _ := impl.StepsAlone(p, k, args, l)
		kept := slices.Clone(got)
		fill(l, impl.Row{Val: 31337})
		if !sameRows(got, kept) || len(got) == 0 {
			t.Errorf("procedure %d: the answer changes with the argument", k)
		}
		l = roomy(serialRows(), spareRow)
		_, got, _ = impl.StepsAlone(p, k, args, l)
		fill(got, impl.Row{Val: 31337})
		if !sameRows(l, serialRows()) || !spareKept(l, spareRow) {
			t.Errorf("procedure %d: the argument changes with the answer", k)
		}
		if _, again, _ := impl.StepsAlone(p, k, args, l); !sameRows(again, kept) {
			t.Errorf("procedure %d: the next answer changes with the one ahead: %v", k, again)
		}
	}
}

// Names come from the Params, from the Cur, and from the statement that is done.
func TestStepNamesAreNewMemory(t *testing.T) {
	long := func(c string) string { return strings.Repeat(c, 300) }
	p := bodySet(numNode(1), nodeOf(impl.NkSet, long("s"), 0, 0), numNode(1), nodeOf(impl.NkRead, long("r"), 0, 2), kidsNode(impl.NkBlock), nodeOf(impl.NkFor, long("f"), 1, 4), kidsNode(impl.NkBlock, 1, 3, 5))
	p.Procs[0].Params = []string{long("p")}
	given := []string{p.L[1].S, p.L[3].S, p.L[5].S, p.Procs[0].Params[0]}
	c := mustStart(t, serial{p: p, args: []int{6}})
	for n := range 9 {
		for _, v := range c.Vars {
			for _, s := range given {
				if inside(v.Name, s) || inside(s, v.Name) {
					t.Errorf("step %d: the name %.3s.. shares its memory", n, v.Name)
				}
			}
			given = append(given, v.Name)
		}
		if impl.Next(p, c).Kind == impl.AcReturn {
			break
		}
		c = goOn(t, p, c, 5)
	}
	if len(c.Vars) != 4 {
		t.Error("so many variables:", len(c.Vars))
	}
}

// A step sees nothing of another run, nor of the same one further on.
func TestStepsKeepNothing(t *testing.T) {
	p := mustParse(t, stepSrc)
	start := mustStart(t, serial{p: p, args: []int{1, 5}})
	want, _ := tracedFrom(t, p, start, serialRows())
	for range 3 {
		other, _ := tracedFrom(t, p, mustStart(t, serial{p: p, args: []int{2, 0}}), nil)
		if slices.Equal(other, want) {
			t.Error("two runs are one")
		}
		impl.StepsAlone(p, 0, []int{9, 9}, nil)
		got, _ := tracedFrom(t, p, start, serialRows())
		wantLines(t, "once more", got, want)
	}
	// Two runs of one set, a step of each by turns.
	first, second := start, mustStart(t, serial{p: p, args: []int{2, 0}})
	for range 5 {
		first, second = goOn(t, p, first, 10), goOn(t, p, second, 7)
	}
	if a, b := curText(p, first), curText(p, second); a != "a=1,b=5,x=1,y=10,z=1 / body4 then1" || b != "a=2,b=0,x=2,y=7 / body5" {
		t.Error("by turns:", a, "and", b)
	}
}
