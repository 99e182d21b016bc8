package tests

import (
	"math"
	"slices"
	"strconv"
	"strings"
	"testing"

	"loop.example/g00689/impl"
)

func wantNoCur(t *testing.T, what string, p impl.Set, c impl.Cur) {
	t.Helper()
	if impl.CurOk(p, c) {
		t.Errorf("%s: CurOk of %v", what, c)
	}
	if a := impl.Next(p, c); a != (impl.Act{}) {
		t.Errorf("%s: Next of %v is %v", what, c, a)
	}
	for _, val := range []int{0, 5} {
		if after, ok := impl.Go(p, c, val); ok || !isNoCur(after) {
			t.Errorf("%s: Go of %v is %v and %v", what, c, after, ok)
		}
	}
}

func wantCur(t *testing.T, what string, p impl.Set, c impl.Cur) {
	t.Helper()
	if !impl.CurOk(p, c) {
		t.Errorf("%s: not CurOk: %v", what, c)
	}
	a := impl.Next(p, c)
	after, ok := impl.Go(p, c, 5)
	switch a.Kind {
	case impl.AcQuiet, impl.AcRead, impl.AcWrite:
		if !ok || !impl.CurOk(p, after) || after.Proc != c.Proc {
			t.Errorf("%s: Go of %v is %v and %v", what, c, after, ok)
		}
	case impl.AcReturn, impl.AcAbort:
		if ok || !isNoCur(after) {
			t.Errorf("%s: Go does not refuse %v of %v: %v", what, a, c, after)
		}
	default:
		t.Errorf("%s: Next of %v is %v", what, c, a)
	}
}

func (s serial) cannotStart(t *testing.T, what string) {
	t.Helper()
	if c, ok := impl.CurNew(s.p, s.k, s.args); ok || !isNoCur(c) {
		t.Errorf("%s: CurNew of %d with %v is %v and %v", what, s.k, s.args, c, ok)
	}
	s.cannotStep(t, what)
}

func (s serial) cannotStep(t *testing.T, what string) {
	t.Helper()
	s.isRefused(t)
	if end, l, n := impl.StepsAlone(s.p, s.k, s.args, s.state); end != (impl.Outcome{}) || len(l) != 0 || n != 0 {
		t.Errorf("%s: StepsAlone of %d with %v is %v, %v and %d", what, s.k, s.args, end, l, n)
	}
}

// wrongCurs are runs of wrongSrc's procedures, as they are where the set is right.
func wrongCurs(t *testing.T) []impl.Cur {
	t.Helper()
	p := mustParse(t, wrongSrc)
	curs := []impl.Cur{{}, {Proc: 1}, {Proc: 2, Vars: []impl.Var{{Name: "c", Val: 5}}}}
	for k := range p.Procs {
		for _, stack := range stacksOf(p, k) {
			curs = append(curs, impl.Cur{Proc: k, Stack: stack})
		}
	}
	return curs
}

func TestStepsOfARightOne(t *testing.T) {
	p := mustParse(t, wrongSrc)
	curs := wrongCurs(t)
	for _, c := range curs {
		wantCur(t, "a right one", p, c)
	}
	if len(curs) < 20 {
		t.Error("too few:", len(curs))
	}
	wrongRun(t, func(p *impl.Set) {}).steps(t, "return 5")
}

// The frames are those of the right set, and the wrong place is not always where they stand.
func TestStepsOfSetsThatMayNotBeRun(t *testing.T) {
	for i, how := range append(noTreeWays(), noTargetWays()...) {
		s := wrongRun(t, how)
		what := "way " + strconv.Itoa(i)
		for _, c := range wrongCurs(t) {
			wantNoCur(t, what, s.p, c)
		}
		for k := -1; k <= len(s.p.Procs); k++ {
			for n := range 5 {
				serial{p: s.p, k: k, args: make([]int, n), state: s.state}.cannotStart(t, what)
			}
		}
	}
	most := 4*impl.MaxStmts + 1
	for what, p := range map[string]impl.Set{
		"the zero value":     {},
		"no procedure":       {L: []impl.Node{kidsNode(impl.NkBlock)}},
		"no node":            {Procs: []impl.Proc{{}}},
		"too many nodes":     signsSet(impl.MaxTree + 1),
		"too many loops":     loopsSet(most+1, 1),
		"too many steps":     loopsSet(8, 4),
		"too many rounds":    stmtsSet(t, "for i in 5 { }"),
		"too few rounds":     stmtsSet(t, "for i in 0 { }"),
		"another one's many": mustParse(t, longProc("q", most+1, "")+"proc p() { }"),
	} {
		serial{p: p}.cannotStart(t, what)
		serial{p: p, k: 1}.cannotStart(t, what)
		wantNoCur(t, what, p, impl.Cur{})
		wantNoCur(t, what, p, impl.Cur{Proc: 1})
		for k, proc := range p.Procs {
			wantNoCur(t, what, p, impl.Cur{Proc: k, Stack: []impl.Frame{{At: proc.Body}}})
		}
	}
}

func TestStepsOfNoProcedure(t *testing.T) {
	p := mustParse(t, "proc p() { return 1; } proc q() { return 2; }")
	for k := range p.Procs {
		serial{p: p, k: k}.steps(t, "return "+strconv.Itoa(k+1))
		wantCur(t, "a procedure", p, impl.Cur{Proc: k})
	}
	for _, k := range []int{math.MinInt, -2, -1, 2, 3, 4, 100, math.MaxInt} {
		serial{p: p, k: k}.cannotStart(t, "no procedure")
		wantNoCur(t, "no procedure", p, impl.Cur{Proc: k})
		wantNoCur(t, "no procedure", p, impl.Cur{Proc: k, Stack: []impl.Frame{{At: p.Procs[1].Body}}})
	}
}

func TestStepsOfWrongArgs(t *testing.T) {
	p := mustParse(t, "proc p() { return 1; } proc q(a) { return 2; } proc r(a, b) { return 3; } proc s(a, a, a) { return 4; }")
	for k := range p.Procs {
		for n := range 8 {
			if s := (serial{p: p, k: k, args: make([]int, n)}); n == k {
				s.steps(t, "return "+strconv.Itoa(k+1))
			} else {
				s.cannotStart(t, "so many args")
			}
		}
		serial{p: p, k: k, args: make([]int, 100000)}.cannotStart(t, "very many args")
	}
	fewer := mustParse(t, "proc p(a, b, c, d) { return 1; }")
	serial{p: fewer, args: []int{1, 2, 3, 4}}.cannotStart(t, "as many as too many Params")
}

func TestStepsOfWrongVars(t *testing.T) {
	p := stmtsSet(t, "x = a;")
	stack := []impl.Frame{{At: p.Procs[0].Body}}
	right, wrong := 0, 0
	for _, l := range listsOf(3, someVars()) {
		for _, c := range []impl.Cur{{Vars: l}, {Vars: l, Stack: stack}} {
			if plainVarsOk(l) {
				wantCur(t, "variables in order", p, c)
				right++
			} else {
				wantNoCur(t, "variables that are not in order", p, c)
				wrong++
			}
		}
	}
	if right < 50 || wrong < 200 {
		t.Error("too few of a kind:", right, wrong)
	}
	// There is no greatest number of them.
	var many []impl.Var
	for i := range 3000 {
		many = append(many, impl.Var{Name: strconv.Itoa(100000 + i), Val: i})
	}
	wantCur(t, "many variables", p, impl.Cur{Vars: many, Stack: stack})
	many[2999].Name = many[2998].Name
	wantNoCur(t, "two of one name among many", p, impl.Cur{Vars: many, Stack: stack})
}

func TestStepsOfWrongRows(t *testing.T) {
	for what, l := range badRows() {
		for _, stmts := range []string{"", "return 1;", "abort;", "write A[0] = 1;", "x = read A[0]; return x;"} {
			plainSteps(t, stmts, l...).cannotStep(t, what)
		}
	}
	for _, l := range listsOf(2, someRows()) {
		if s := plainSteps(t, "x = 8; return x;", l...); plainRowsOk(l) {
			s.takes(t, 2, impl.Outcome{Kind: impl.OcReturn, Val: 8}, l)
			plainSteps(t, "abort;", l...).takes(t, 1, impl.Outcome{Kind: impl.OcAbort}, l)
		} else {
			s.cannotStep(t, "wrong rows")
		}
	}
}

// stacksOf are all stacks that a run of procedure k may have, found by going down from its Body.
func stacksOf(p impl.Set, k int) [][]impl.Frame {
	all := [][]impl.Frame{nil}
	var down func(ahead []impl.Frame, at int)
	down = func(ahead []impl.Frame, at int) {
		x := p.L[at]
		if x.Kind == impl.NkFor {
			for i := 0; i <= x.N; i++ {
				all = append(all, append(slices.Clone(ahead), impl.Frame{At: at, I: i}))
				down(all[len(all)-1], x.Kids[0])
			}
			return
		}
		for i := 0; i <= len(x.Kids); i++ {
			stack := append(slices.Clone(ahead), impl.Frame{At: at, I: i})
			all = append(all, stack)
			if i == 0 {
				continue
			}
			if begun := x.Kids[i-1]; p.L[begun].Kind == impl.NkFor {
				down(stack, begun)
			} else if p.L[begun].Kind == impl.NkIf {
				for _, kid := range p.L[begun].Kids[1:] {
					down(stack, kid)
				}
			}
		}
	}
	down(nil, p.Procs[k].Body)
	return all
}

// framesSrc has blocks and loops in one another, in each way, and two of a kind beside each other.
const framesSrc = "proc p(a) { for i in 1 { } for j in 2 { if (a) { x = 1; } else { for k in 1 { if (1) { } } } } if (a) { if (2) { abort; } } } proc q(b) { for i in 1 { } if (b) { } else { } } proc r() { }"

func stackKey(k int, stack []impl.Frame) string {
	text := strconv.Itoa(k)
	for _, f := range stack {
		text += " " + strconv.Itoa(f.At) + ":" + strconv.Itoa(f.I)
	}
	return text
}

// neighbours are stacks of which one frame is another one, or is put, or is taken away.
func neighbours(p impl.Set, stack []impl.Frame) [][]impl.Frame {
	var frames []impl.Frame
	for at := -1; at <= len(p.L); at++ {
		for i := -1; i <= 5; i++ {
			frames = append(frames, impl.Frame{At: at, I: i})
		}
	}
	var all [][]impl.Frame
	for i := range len(stack) + 1 {
		for _, f := range frames {
			all = append(all, slices.Insert(slices.Clone(stack), i, f))
			if i < len(stack) {
				other := slices.Clone(stack)
				other[i] = f
				all = append(all, other)
			}
		}
		if i < len(stack) {
			all = append(all, slices.Delete(slices.Clone(stack), i, i+1))
		}
	}
	return all
}

// All stacks that there may be, and all that are like one of them but for one frame.
func TestStacksOfFrames(t *testing.T) {
	p := mustParse(t, framesSrc)
	right := map[string]bool{}
	for k := range p.Procs {
		for _, stack := range stacksOf(p, k) {
			right[stackKey(k, stack)] = true
			wantCur(t, "a stack", p, impl.Cur{Proc: k, Stack: stack})
		}
	}
	wrong := 0
	for k := range p.Procs {
		for _, stack := range stacksOf(p, k) {
			for _, other := range neighbours(p, stack) {
				is := right[stackKey(k, other)]
				if impl.CurOk(p, impl.Cur{Proc: k, Stack: other}) != is {
					t.Fatalf("CurOk of procedure %d and %v is not %v", k, other, is)
				}
				if !is && wrong%97 == 0 {
					wantNoCur(t, "a stack", p, impl.Cur{Proc: k, Stack: other})
				}
				if !is {
					wrong++
				}
			}
		}
	}
	if len(right) < 50 || wrong < 10000 {
		t.Error("too few of a kind:", len(right), wrong)
	}
}

func TestStacksOfWrongNumbers(t *testing.T) {
	p := stmtsSet(t, "for i in 2 { x = 1; } if (1) { }")
	body := p.Procs[0].Body
	loop, choice := p.L[body].Kids[0], p.L[body].Kids[1]
	round, then := p.L[loop].Kids[0], p.L[choice].Kids[1]
	for i := range 3 {
		wantCur(t, "so much of the Body", p, impl.Cur{Stack: []impl.Frame{{At: body, I: i}}})
		wantCur(t, "so many rounds", p, impl.Cur{Stack: []impl.Frame{{At: body, I: 1}, {At: loop, I: i}}})
	}
	for _, i := range []int{math.MinInt, -2, -1, 3, 4, 1000, math.MaxInt} {
		wantNoCur(t, "so much of the Body", p, impl.Cur{Stack: []impl.Frame{{At: body, I: i}}})
		wantNoCur(t, "so much of the Body, with a frame behind it", p, impl.Cur{Stack: []impl.Frame{{At: body, I: i}, {At: loop}}})
		wantNoCur(t, "so many rounds", p, impl.Cur{Stack: []impl.Frame{{At: body, I: 1}, {At: loop, I: i}}})
		wantNoCur(t, "so many rounds, with a frame behind them", p, impl.Cur{Stack: []impl.Frame{{At: body, I: 1}, {At: loop, I: i}, {At: round}}})
		wantNoCur(t, "so much of a round", p, impl.Cur{Stack: []impl.Frame{{At: body, I: 1}, {At: loop, I: 1}, {At: round, I: i}}})
		wantNoCur(t, "so much of a choice's block", p, impl.Cur{Stack: []impl.Frame{{At: body, I: 2}, {At: then, I: i}}})
	}
	for _, at := range []int{math.MinInt, -2, -1, len(p.L), len(p.L) + 1, 1000, math.MaxInt} {
		wantNoCur(t, "no node as the Body", p, impl.Cur{Stack: []impl.Frame{{At: at}}})
		wantNoCur(t, "no node behind a block", p, impl.Cur{Stack: []impl.Frame{{At: body, I: 1}, {At: at}}})
		wantNoCur(t, "no node behind a loop", p, impl.Cur{Stack: []impl.Frame{{At: body, I: 1}, {At: loop, I: 1}, {At: at}}})
	}
	// A choice has no frame, nor has what is no statement.
	for at, x := range p.L {
		if x.Kind != impl.NkBlock && x.Kind != impl.NkFor {
			for _, i := range []int{0, 1, 2} {
				wantNoCur(t, "no block and no loop", p, impl.Cur{Stack: []impl.Frame{{At: body, I: i}, {At: at}}})
				wantNoCur(t, "no block and no loop", p, impl.Cur{Stack: []impl.Frame{{At: body, I: i}, {At: at, I: 1}}})
			}
		}
		if at != body {
			wantNoCur(t, "not the Body", p, impl.Cur{Stack: []impl.Frame{{At: at}}})
		}
	}
}

// Each of the three rules by which a frame stands behind another one.
func TestStacksOfNoKids(t *testing.T) {
	p := stmtsSet(t, "for i in 2 { for j in 2 { } } if (1) { for k in 2 { } } else { } if (1) { }")
	body := p.Procs[0].Body
	loop, first, second := p.L[body].Kids[0], p.L[p.L[body].Kids[1]], p.L[p.L[body].Kids[2]]
	round := p.L[loop].Kids[0]
	inner := p.L[round].Kids[0]
	within := p.L[first.Kids[1]].Kids[0]
	for _, x := range []struct {
		what  string
		right bool
		stack []impl.Frame
	}{
		{"a block's loop", true, []impl.Frame{{At: body, I: 1}, {At: loop}}},
		{"a block's loop that has not been begun", false, []impl.Frame{{At: body}, {At: loop}}},
		{"a block's loop that has long been begun", false, []impl.Frame{{At: body, I: 2}, {At: loop}}},
		{"another block's loop", false, []impl.Frame{{At: body, I: 1}, {At: inner}}},
		{"a loop of a choice's block", false, []impl.Frame{{At: body, I: 2}, {At: within}}},
		{"a choice's first block", true, []impl.Frame{{At: body, I: 2}, {At: first.Kids[1]}}},
		{"a choice's second block", true, []impl.Frame{{At: body, I: 2}, {At: first.Kids[2]}}},
		{"another choice's block", false, []impl.Frame{{At: body, I: 2}, {At: second.Kids[1]}}},
		{"a block of a choice that has not been begun", false, []impl.Frame{{At: body, I: 1}, {At: first.Kids[1]}}},
		{"a block of a choice that has long been begun", false, []impl.Frame{{At: body, I: 3}, {At: first.Kids[1]}}},
		{"the last choice's block", true, []impl.Frame{{At: body, I: 3}, {At: second.Kids[1]}}},
		{"a loop's block", true, []impl.Frame{{At: body, I: 1}, {At: loop, I: 1}, {At: round}}},
		{"a loop's block, with no round begun", true, []impl.Frame{{At: body, I: 1}, {At: loop}, {At: round}}},
		{"a loop's block without the loop", false, []impl.Frame{{At: body, I: 1}, {At: round}}},
		{"another loop's block", false, []impl.Frame{{At: body, I: 1}, {At: loop, I: 1}, {At: p.L[inner].Kids[0]}}},
		{"a loop behind a loop", false, []impl.Frame{{At: body, I: 1}, {At: loop, I: 1}, {At: inner}}},
		{"a loop behind itself", false, []impl.Frame{{At: body, I: 1}, {At: loop, I: 1}, {At: loop, I: 1}}},
		{"a block of a choice behind a loop", false, []impl.Frame{{At: body, I: 1}, {At: loop, I: 1}, {At: first.Kids[1]}}},
		{"a Body behind a Body", false, []impl.Frame{{At: body, I: 1}, {At: body}}},
		{"a Body behind a loop", false, []impl.Frame{{At: body, I: 1}, {At: loop, I: 1}, {At: body}}},
		{"a loop in a loop's block", true, []impl.Frame{{At: body, I: 1}, {At: loop, I: 1}, {At: round, I: 1}, {At: inner}}},
		{"a loop in a choice's block", true, []impl.Frame{{At: body, I: 2}, {At: first.Kids[1], I: 1}, {At: within, I: 2}}},
		{"a loop in a choice's other block", false, []impl.Frame{{At: body, I: 2}, {At: first.Kids[2]}, {At: within, I: 2}}},
		{"a wrong frame with right ones behind it", false, []impl.Frame{{At: body, I: 2}, {At: loop, I: 1}, {At: round, I: 1}, {At: inner}}},
		{"the other way round", false, []impl.Frame{{At: loop, I: 1}, {At: body, I: 1}}},
	} {
		if x.right {
			wantCur(t, x.what, p, impl.Cur{Stack: x.stack})
		} else {
			wantNoCur(t, x.what, p, impl.Cur{Stack: x.stack})
		}
	}
}

func TestStacksOfAnotherProceduresBody(t *testing.T) {
	p := mustParse(t, "proc p() { x = 1; } proc q() { x = 1; } proc r() { for i in 1 { } }")
	for k := range p.Procs {
		for at, x := range p.L {
			c := impl.Cur{Proc: k, Stack: []impl.Frame{{At: at}}}
			if at == p.Procs[k].Body {
				wantCur(t, "its Body", p, c)
			} else if x.Kind == impl.NkBlock {
				wantNoCur(t, "another Body", p, c)
			}
		}
	}
	body := p.Procs[2].Body
	wantNoCur(t, "a loop ahead of all", p, impl.Cur{Proc: 2, Stack: []impl.Frame{{At: p.L[body].Kids[0], I: 1}, {At: p.L[p.L[body].Kids[0]].Kids[0]}}})
}

// The deepest set has 195 frames within one another, so that more than 200 are wrong by the other rules, too.
func TestStacksOfTooManyFrames(t *testing.T) {
	most := 4*impl.MaxStmts + 1
	p := loopsSet(most, 1)
	var stack []impl.Frame
	for at := p.Procs[0].Body; ; at = p.L[at].Kids[0] {
		stack = append(stack, impl.Frame{At: at, I: min(1, len(p.L[at].Kids))})
		if len(p.L[at].Kids) == 0 {
			break
		}
	}
	if len(stack) != 1+2*most {
		t.Fatal("so many frames:", len(stack))
	}
	wantCur(t, "the most frames", p, impl.Cur{Stack: stack})
	for _, n := range []int{196, 199, 200, 201, 202, 300, 100000} {
		longer := append(slices.Clone(stack), slices.Repeat(stack[len(stack)-1:], n-len(stack))...)
		wantNoCur(t, "too many frames", p, impl.Cur{Stack: longer})
		wantNoCur(t, "the Body again and again", p, impl.Cur{Stack: slices.Repeat(stack[:1], n)})
	}
	short := stmtsSet(t, "x = 1;")
	wantNoCur(t, "the Body again and again", short, impl.Cur{Stack: slices.Repeat([]impl.Frame{{At: short.Procs[0].Body}}, 201)})
}

// Names of any bytes, and numbers of any size, are as good as others.
func TestStepsOfOddTexts(t *testing.T) {
	for _, s := range []string{"", "\x00", "$0", "for", "Ä\xff", strings.Repeat("y", 4000)} {
		p := bodySet(numNode(math.MinInt), nodeOf(impl.NkSet, s, 0, 0), kidsNode(impl.NkBlock), nodeOf(impl.NkFor, "i"+s, 1, 2), varNode(s), nodeOf(impl.NkRead, s, 2, 4), varNode(s), kidsNode(impl.NkReturn, 6), kidsNode(impl.NkBlock, 1, 3, 5, 7))
		rows := []impl.Row{row(2, math.MinInt, math.MaxInt)}
		serial{p: p, state: rows}.takes(t, 6, impl.Outcome{Kind: impl.OcReturn, Val: math.MaxInt}, rows)
	}
}
