package tests

import (
	"slices"
	"strconv"
	"strings"
	"testing"

	"loop.example/g00689/impl"
)

// maxTraced is more than any set that may be run can take.
const maxTraced = 4*impl.MaxSteps + 11

func frameName(p impl.Set, at int) string {
	if p.L[at].Kind == impl.NkFor {
		return "for"
	}
	for _, x := range p.L {
		if i := slices.Index(x.Kids, at); i >= 0 && x.Kind == impl.NkIf {
			return []string{"", "then", "else"}[i]
		} else if i >= 0 {
			return "round"
		}
	}
	return "body"
}

// curText tells the variables, and behind a stroke each frame by what it is and how much of it has been begun.
func curText(p impl.Set, c impl.Cur) string {
	var vars, frames []string
	for _, v := range c.Vars {
		vars = append(vars, v.Name+"="+strconv.Itoa(v.Val))
	}
	for _, f := range c.Stack {
		frames = append(frames, frameName(p, f.At)+strconv.Itoa(f.I))
	}
	return strings.Join(vars, ",") + " / " + strings.Join(frames, " ")
}

// actText tells all that a step has, so that nothing in it goes unseen.
func actText(a impl.Act) string {
	text := []string{"none", "quiet", "read", "write", "return", "abort"}[a.Kind]
	if a.Kind == impl.AcRead || a.Kind == impl.AcWrite || a.K != (impl.Key{}) {
		text += " " + impl.TableText(a.K.T) + strconv.Itoa(a.K.R)
	}
	if a.Kind == impl.AcWrite || a.Kind == impl.AcReturn || a.Val != 0 {
		text += " " + strconv.Itoa(a.Val)
	}
	return text
}

func sameCur(a, b impl.Cur) bool {
	return a.Proc == b.Proc && slices.Equal(a.Vars, b.Vars) && slices.Equal(a.Stack, b.Stack)
}

func isNoCur(c impl.Cur) bool {
	return c.Proc == 0 && len(c.Vars) == 0 && len(c.Stack) == 0
}

func mustStart(t *testing.T, s serial) impl.Cur {
	t.Helper()
	c, ok := impl.CurNew(s.p, s.k, s.args)
	if !ok || !impl.CurOk(s.p, c) {
		t.Fatalf("CurNew of %s and %v: %v and %v", impl.SetText(s.p), s.args, c, ok)
	}
	return c
}

// goOn does one step, which is to be no end.
func goOn(t *testing.T, p impl.Set, c impl.Cur, val int) impl.Cur {
	t.Helper()
	after, ok := impl.Go(p, c, val)
	if !ok || !impl.CurOk(p, after) {
		t.Fatalf("Go from %s: %v and %v", curText(p, c), after, ok)
	}
	return after
}

// tracedFrom tells each step from c on, with what stands behind it, and the rows behind the last one.
func tracedFrom(t *testing.T, p impl.Set, c impl.Cur, rows []impl.Row) ([]string, []impl.Row) {
	t.Helper()
	var lines []string
	for len(lines) < maxTraced {
		a := impl.Next(p, c)
		val := 31337
		switch a.Kind {
		case impl.AcRead:
			val = plainRowOf(rows, a.K)
		case impl.AcWrite:
			rows = plainPutRow(rows, a.K, a.Val)
		case impl.AcQuiet:
		default:
			if after, ok := impl.Go(p, c, val); ok || !isNoCur(after) {
				t.Errorf("Go does not refuse %s: %v", actText(a), after)
			}
			return append(lines, actText(a)), rows
		}
		c = goOn(t, p, c, val)
		lines = append(lines, actText(a)+": "+curText(p, c))
	}
	t.Fatalf("%s takes steps without an end", impl.SetText(p))
	return nil, nil
}

func wantLines(t *testing.T, what string, got, want []string) {
	t.Helper()
	if !slices.Equal(got, want) {
		t.Errorf("%s: the steps are\n%s\nnot\n%s", what, strings.Join(got, "\n"), strings.Join(want, "\n"))
	}
}

// steps asks for each step from the beginning on, for what all comes to, and for how many there were.
func (s serial) steps(t *testing.T, want ...string) {
	t.Helper()
	got, rows := tracedFrom(t, s.p, mustStart(t, s), s.state)
	wantLines(t, impl.SetText(s.p), got, want)
	end, val, _ := strings.Cut(want[len(want)-1], " ")
	n, _ := strconv.Atoi(val)
	outcome := impl.Outcome{Kind: impl.OcReturn, Val: n}
	if end == "abort" {
		outcome, rows = impl.Outcome{Kind: impl.OcAbort}, s.state
	}
	s.takes(t, len(want), outcome, rows)
}

// takes asks for the same by steps and at once, and for so many steps.
func (s serial) takes(t *testing.T, n int, want impl.Outcome, rows []impl.Row) {
	t.Helper()
	s.ends(t, want, rows)
	end, l, count := impl.StepsAlone(s.p, s.k, s.args, s.state)
	if end != want || !sameRows(l, rows) || count != n {
		t.Errorf("StepsAlone of %s with %v: %v, %v and %d, not %v, %v and %d", impl.SetText(s.p), s.args, end, l, count, want, rows, n)
	}
	if bound := impl.StepBound(s.p, s.k); count > bound {
		t.Errorf("%s takes %d steps, and at most %d", impl.SetText(s.p), count, bound)
	}
}

// plainSteps has no Params, so that all variables that are told are put by the statements.
func plainSteps(t *testing.T, stmts string, state ...impl.Row) serial {
	t.Helper()
	return serial{p: stmtsSet(t, stmts), state: state}
}

func TestCurNew(t *testing.T) {
	p := mustParse(t, "proc p(b, a) { x = b; } proc q() { } proc r(c, c, c) { }")
	for _, x := range []struct {
		k    int
		args []int
		want string
	}{{0, []int{4, 9}, "a=9,b=4 / body0"}, {0, []int{0, -1}, "a=-1,b=0 / body0"}, {1, nil, " / body0"}, {1, []int{}, " / body0"}, {2, []int{1, 2, 3}, "c=3 / body0"}} {
		c, ok := impl.CurNew(p, x.k, x.args)
		if !ok || c.Proc != x.k || curText(p, c) != x.want || c.Stack[0].At != p.Procs[x.k].Body || !impl.CurOk(p, c) {
			t.Errorf("CurNew of %d with %v: %v and %v", x.k, x.args, c, ok)
		}
	}
}

// A Param that stands twice has its last arg, whichever way they stand.
func TestCurNewOfParamsTwice(t *testing.T) {
	p := mustParse(t, "proc p(b, a, b) { return b; }")
	s := serial{p: p, args: []int{1, 2, 3}}
	if got := curText(p, mustStart(t, s)); got != "a=2,b=3 / body0" {
		t.Error(got)
	}
	s.steps(t, "return 3")
	s.with(3, 2, 0).steps(t, "return 0")
}

func TestStepsOfEachStatement(t *testing.T) {
	state := []impl.Row{row(0, 7, 70), row(3, -2, -4)}
	s := func(stmts string) serial { return plainSteps(t, stmts, state...) }
	s("x = 3;").steps(t, "quiet: x=3 / body1", "return 0")
	s("x = 0;").steps(t, "quiet: x=0 / body1", "return 0")
	s("x = read A[7];").steps(t, "read A7: x=70 / body1", "return 0")
	s("x = read D[-2];").steps(t, "read D-2: x=-4 / body1", "return 0")
	s("x = read B[7];").steps(t, "read B7: x=0 / body1", "return 0")
	s("x = read A[0];").steps(t, "read A0: x=0 / body1", "return 0")
	s("write A[7] = 5;").steps(t, "write A7 5:  / body1", "return 0")
	s("write C[-1] = 0;").steps(t, "write C-1 0:  / body1", "return 0")
	s("write A[0] = 0;").steps(t, "write A0 0:  / body1", "return 0")
	s("write A[1 + 1] = 3 - 8;").steps(t, "write A2 -5:  / body1", "return 0")
	s("for i in 1 { }").steps(t, "quiet:  / body1 for0", "quiet: i=0 / body1 for1 round0", "quiet: i=0 / body1", "return 0")
	s("return 4;").steps(t, "return 4")
	s("return 0;").steps(t, "return 0")
	s("return -(2 * 3);").steps(t, "return -6")
	s("abort;").steps(t, "abort")
	serial{p: conflictSet(1), state: state}.steps(t, "write #1 1:  / body1", "read D1: x=0 / body2", "return 0")
}

func TestStepsOfAChoice(t *testing.T) {
	for cond, holds := range map[string]bool{"1": true, "0": false, "-1": true, "2 < 3": true, "3 < 2": false, "q": false, "1 == 1": true} {
		s := func(behind string) serial { return plainSteps(t, "if ("+cond+") "+behind) }
		if holds {
			s("{ x = 1; }").steps(t, "quiet:  / body1 then0", "quiet: x=1 / body1 then1", "return 0")
			s("{ x = 1; } else { x = 2; }").steps(t, "quiet:  / body1 then0", "quiet: x=1 / body1 then1", "return 0")
			s("{ } else { x = 2; }").steps(t, "quiet:  / body1 then0", "return 0")
			s("{ x = 1; } y = 3;").steps(t, "quiet:  / body1 then0", "quiet: x=1 / body1 then1", "quiet: x=1,y=3 / body2", "return 0")
			s("{ return 8; } y = 3;").steps(t, "quiet:  / body1 then0", "return 8")
			continue
		}
		s("{ x = 1; }").steps(t, "quiet:  / body1", "return 0")
		s("{ x = 1; } else { x = 2; }").steps(t, "quiet:  / body1 else0", "quiet: x=2 / body1 else1", "return 0")
		s("{ x = 1; } else { }").steps(t, "quiet:  / body1 else0", "return 0")
		s("{ x = 1; } y = 3;").steps(t, "quiet:  / body1", "quiet: y=3 / body2", "return 0")
		s("{ x = 1; } else { abort; } y = 3;").steps(t, "quiet:  / body1 else0", "abort")
	}
}

func TestStepsOfChoicesInChoices(t *testing.T) {
	s := alone(t, "if (a) { if (b) { x = 1; } else { x = 2; } } else { if (b) { x = 3; } y = 4; } return x;")
	s.with(1, 1, 0).steps(t, "quiet: a=1,b=1,c=0 / body1 then0", "quiet: a=1,b=1,c=0 / body1 then1 then0", "quiet: a=1,b=1,c=0,x=1 / body1 then1 then1", "return 1")
	s.with(1, 0, 0).steps(t, "quiet: a=1,b=0,c=0 / body1 then0", "quiet: a=1,b=0,c=0 / body1 then1 else0", "quiet: a=1,b=0,c=0,x=2 / body1 then1 else1", "return 2")
	s.with(0, 1, 0).steps(t, "quiet: a=0,b=1,c=0 / body1 else0", "quiet: a=0,b=1,c=0 / body1 else1 then0", "quiet: a=0,b=1,c=0,x=3 / body1 else1 then1", "quiet: a=0,b=1,c=0,x=3,y=4 / body1 else2", "return 3")
	s.with(0, 0, 0).steps(t, "quiet: a=0,b=0,c=0 / body1 else0", "quiet: a=0,b=0,c=0 / body1 else1", "quiet: a=0,b=0,c=0,y=4 / body1 else2", "return 0")
}

func TestStepsOfRounds(t *testing.T) {
	plainSteps(t, "for i in 2 { x = x + i + 1; } return x;").steps(t,
		"quiet:  / body1 for0",
		"quiet: i=0 / body1 for1 round0", "quiet: i=0,x=1 / body1 for1 round1",
		"quiet: i=1,x=1 / body1 for2 round0", "quiet: i=1,x=3 / body1 for2 round1",
		"quiet: i=1,x=3 / body1", "return 3")
	for n := 1; n <= impl.MaxTimes; n++ {
		times := strconv.Itoa(n)
		plainSteps(t, "for i in "+times+" { }").takes(t, 2+n+1, impl.Outcome{Kind: impl.OcReturn}, nil)
		plainSteps(t, "for i in "+times+" { x = x + 1; } return x;").takes(t, 2+2*n+1, impl.Outcome{Kind: impl.OcReturn, Val: n}, nil)
	}
}

func TestStepsOfRoundsInRounds(t *testing.T) {
	plainSteps(t, "for i in 2 { for j in 2 { x = x * 10 + i * 2 + j; } }").steps(t,
		"quiet:  / body1 for0",
		"quiet: i=0 / body1 for1 round0",
		"quiet: i=0 / body1 for1 round1 for0",
		"quiet: i=0,j=0 / body1 for1 round1 for1 round0",
		"quiet: i=0,j=0,x=0 / body1 for1 round1 for1 round1",
		"quiet: i=0,j=1,x=0 / body1 for1 round1 for2 round0",
		"quiet: i=0,j=1,x=1 / body1 for1 round1 for2 round1",
		"quiet: i=0,j=1,x=1 / body1 for1 round1",
		"quiet: i=1,j=1,x=1 / body1 for2 round0",
		"quiet: i=1,j=1,x=1 / body1 for2 round1 for0",
		"quiet: i=1,j=0,x=1 / body1 for2 round1 for1 round0",
		"quiet: i=1,j=0,x=12 / body1 for2 round1 for1 round1",
		"quiet: i=1,j=1,x=12 / body1 for2 round1 for2 round0",
		"quiet: i=1,j=1,x=123 / body1 for2 round1 for2 round1",
		"quiet: i=1,j=1,x=123 / body1 for2 round1",
		"quiet: i=1,j=1,x=123 / body1",
		"return 0")
	// One name for both: the outer rounds count on by their frame.
	plainSteps(t, "for i in 2 { for i in 1 { i = 9; } }").steps(t,
		"quiet:  / body1 for0",
		"quiet: i=0 / body1 for1 round0", "quiet: i=0 / body1 for1 round1 for0", "quiet: i=0 / body1 for1 round1 for1 round0", "quiet: i=9 / body1 for1 round1 for1 round1", "quiet: i=9 / body1 for1 round1",
		"quiet: i=1 / body1 for2 round0", "quiet: i=1 / body1 for2 round1 for0", "quiet: i=0 / body1 for2 round1 for1 round0", "quiet: i=9 / body1 for2 round1 for1 round1", "quiet: i=9 / body1 for2 round1",
		"quiet: i=9 / body1", "return 0")
}

func TestStepsReadWriteAndReadAgain(t *testing.T) {
	state := []impl.Row{row(0, 1, 10), row(1, 1, 11)}
	plainSteps(t, "x = read A[1]; write A[1] = x + 5; y = read A[1]; write A[1] = 0; z = read A[1]; return x * 100 + y + z;", state...).steps(t,
		"read A1: x=10 / body1", "write A1 15: x=10 / body2", "read A1: x=10,y=15 / body3", "write A1 0: x=10,y=15 / body4", "read A1: x=10,y=15,z=0 / body5", "return 1015")
	plainSteps(t, "write A[1] = 9; x = read A[1]; y = read B[1]; abort;", state...).steps(t,
		"write A1 9:  / body1", "read A1: x=9 / body2", "read B1: x=9,y=11 / body3", "abort")
	plainSteps(t, "x = read A[1]; write A[x] = 1; x = read A[x]; return x;", state...).steps(t,
		"read A1: x=10 / body1", "write A10 1: x=10 / body2", "read A10: x=1 / body3", "return 1")
}

func TestStepsPutVariablesByName(t *testing.T) {
	plainSteps(t, "m = 1; z = 2; a = 3; m = m + z; n = read A[m]; b = m;", row(0, 3, 8)).steps(t,
		"quiet: m=1 / body1", "quiet: m=1,z=2 / body2", "quiet: a=3,m=1,z=2 / body3", "quiet: a=3,m=3,z=2 / body4", "read A3: a=3,m=3,n=8,z=2 / body5", "quiet: a=3,b=3,m=3,n=8,z=2 / body6", "return 0")
	alone(t, "c = a; a = 0; return a + b;").steps(t, "quiet: a=7,b=-2,c=7 / body1", "quiet: a=0,b=-2,c=7 / body2", "return -2")
}

// The val is put for the row that is read, whatever the row would have been.
func TestGoPutsWhatItIsGiven(t *testing.T) {
	p := stmtsSet(t, "x = 5; x = read A[x]; y = read B[x]; return x - y;")
	for _, x := range [][3]int{{1, 2, -1}, {0, 0, 0}, {-9, 4, -13}, {5, 5, 0}} {
		c := goOn(t, p, mustStart(t, serial{p: p}), 31337)
		c = goOn(t, p, c, x[0])
		if a := impl.Next(p, c); a != (impl.Act{Kind: impl.AcRead, K: impl.Key{T: 1, R: x[0]}}) {
			t.Error("a read of what was read:", a)
		}
		c = goOn(t, p, c, x[1])
		if a := impl.Next(p, c); a != (impl.Act{Kind: impl.AcReturn, Val: x[2]}) {
			t.Errorf("%v is returned behind %v", a, x)
		}
	}
}

// Each procedure has its own Body, and its own number in the Cur.
func TestStepsOfEachProcedure(t *testing.T) {
	p := mustParse(t, "proc p(a) { x = a; return 1; } proc q() { } proc r(b, c) { for i in 1 { return b - c; } }")
	serial{p: p, args: []int{6}}.steps(t, "quiet: a=6,x=6 / body1", "return 1")
	serial{p: p, k: 1}.steps(t, "return 0")
	s := serial{p: p, k: 2, args: []int{6, 8}}
	s.steps(t, "quiet: b=6,c=8 / body1 for0", "quiet: b=6,c=8,i=0 / body1 for1 round0", "return -2")
	for c, n := mustStart(t, s), 0; n < 2; n++ {
		if c = goOn(t, p, c, 0); c.Proc != 2 {
			t.Error("another procedure goes on:", c)
		}
	}
}

func TestStepsAsMany(t *testing.T) {
	returned := func(val int) impl.Outcome { return impl.Outcome{Kind: impl.OcReturn, Val: val} }
	aborted := impl.Outcome{Kind: impl.OcAbort}
	for stmts, n := range map[string]int{"": 1, "x = 1;": 2, "if (0) { x = 1; }": 2, "if (1) { x = 1; }": 3, "for i in 4 { for j in 4 { } }": 1 + 4*(1+6) + 1 + 1, "write A[1] = 0; x = read A[1];": 3} {
		plainSteps(t, stmts).takes(t, n, returned(0), nil)
		plainSteps(t, stmts+" return 5;").takes(t, n, returned(5), nil)
		plainSteps(t, stmts+" abort;").takes(t, n, aborted, nil)
		plainSteps(t, stmts+" x = 1 / 0;").takes(t, n, aborted, nil)
		plainSteps(t, stmts+" return 5; x = 1; y = 2;").takes(t, n, returned(5), nil)
	}
}
