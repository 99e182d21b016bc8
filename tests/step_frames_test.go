package tests

import (
	"strings"
	"testing"

	"loop.example/g00689/impl"
)

// A block whose last statement has been begun stays: what is in that statement stands behind it.
func TestBlocksStayUntilTheNextStep(t *testing.T) {
	plainSteps(t, "x = 1; if (1) { y = 2; } z = 3;").steps(t,
		"quiet: x=1 / body1", "quiet: x=1 / body2 then0", "quiet: x=1,y=2 / body2 then1", "quiet: x=1,y=2,z=3 / body3", "return 0")
	plainSteps(t, "if (1) { write A[1] = 2; } x = read A[1];").steps(t,
		"quiet:  / body1 then0", "write A1 2:  / body1 then1", "read A1: x=2 / body2", "return 0")
	plainSteps(t, "if (1) { x = read A[1]; } write A[1] = x;", row(0, 1, 6)).steps(t,
		"quiet:  / body1 then0", "read A1: x=6 / body1 then1", "write A1 6: x=6 / body2", "return 0")
	plainSteps(t, "for i in 1 { x = 1; }").steps(t,
		"quiet:  / body1 for0", "quiet: i=0 / body1 for1 round0", "quiet: i=0,x=1 / body1 for1 round1", "quiet: i=0,x=1 / body1", "return 0")
}

func TestSeveralBlocksAtTheirEndGoAtOnce(t *testing.T) {
	s := plainSteps(t, "if (1) { if (1) { if (0) { } else { x = 1; } } } y = 2;")
	s.steps(t, "quiet:  / body1 then0", "quiet:  / body1 then1 then0", "quiet:  / body1 then1 then1 else0", "quiet: x=1 / body1 then1 then1 else1", "quiet: x=1,y=2 / body2", "return 0")
	// Empty ones, which are at their end when they stand there.
	plainSteps(t, "if (1) { if (1) { if (1) { } } } y = 2;").steps(t,
		"quiet:  / body1 then0", "quiet:  / body1 then1 then0", "quiet:  / body1 then1 then1 then0", "quiet: y=2 / body2", "return 0")
	// All of them with the Body, and the step is the end.
	plainSteps(t, "if (1) { if (1) { x = 1; } }").steps(t,
		"quiet:  / body1 then0", "quiet:  / body1 then1 then0", "quiet: x=1 / body1 then1 then1", "return 0")
	// As far as the first one that is not at its end, or the first loop.
	plainSteps(t, "if (1) { if (1) { if (1) { x = 1; } } y = 2; }").steps(t,
		"quiet:  / body1 then0", "quiet:  / body1 then1 then0", "quiet:  / body1 then1 then1 then0", "quiet: x=1 / body1 then1 then1 then1", "quiet: x=1,y=2 / body1 then2", "return 0")
	plainSteps(t, "for i in 2 { if (1) { if (i) { x = i; } } } y = 2;").steps(t,
		"quiet:  / body1 for0",
		"quiet: i=0 / body1 for1 round0", "quiet: i=0 / body1 for1 round1 then0", "quiet: i=0 / body1 for1 round1 then1",
		"quiet: i=1 / body1 for2 round0", "quiet: i=1 / body1 for2 round1 then0", "quiet: i=1 / body1 for2 round1 then1 then0", "quiet: i=1,x=1 / body1 for2 round1 then1 then1",
		"quiet: i=1,x=1 / body1", "quiet: i=1,x=1,y=2 / body2", "return 0")
}

// A loop goes in a step of its own, in which nothing behind it is begun, and no second loop goes.
func TestLoopsGoInStepsOfTheirOwn(t *testing.T) {
	plainSteps(t, "for i in 1 { } x = 1;").steps(t,
		"quiet:  / body1 for0", "quiet: i=0 / body1 for1 round0", "quiet: i=0 / body1", "quiet: i=0,x=1 / body2", "return 0")
	plainSteps(t, "for i in 1 { for j in 1 { for k in 1 { } } }").steps(t,
		"quiet:  / body1 for0", "quiet: i=0 / body1 for1 round0", "quiet: i=0 / body1 for1 round1 for0", "quiet: i=0,j=0 / body1 for1 round1 for1 round0",
		"quiet: i=0,j=0 / body1 for1 round1 for1 round1 for0", "quiet: i=0,j=0,k=0 / body1 for1 round1 for1 round1 for1 round0",
		"quiet: i=0,j=0,k=0 / body1 for1 round1 for1 round1", "quiet: i=0,j=0,k=0 / body1 for1 round1", "quiet: i=0,j=0,k=0 / body1", "return 0")
	// The block that the loop was in stays, too, though it is at its end.
	plainSteps(t, "if (1) { for i in 1 { } } x = 1;").steps(t,
		"quiet:  / body1 then0", "quiet:  / body1 then1 for0", "quiet: i=0 / body1 then1 for1 round0", "quiet: i=0 / body1 then1", "quiet: i=0,x=1 / body2", "return 0")
	plainSteps(t, "for i in 1 { return 5; }").steps(t, "quiet:  / body1 for0", "quiet: i=0 / body1 for1 round0", "return 5")
}

func TestTheBodyAtItsEnd(t *testing.T) {
	plainSteps(t, "").steps(t, "return 0")
	p := stmtsSet(t, "x = 1;")
	c := goOn(t, p, mustStart(t, serial{p: p}), 0)
	if got := curText(p, c); got != "x=1 / body1" || impl.Next(p, c) != (impl.Act{Kind: impl.AcReturn}) {
		t.Error("behind the last statement:", got, impl.Next(p, c))
	}
	if after, ok := impl.Go(p, c, 3); ok || !isNoCur(after) {
		t.Error("Go goes on behind the end:", after)
	}
	// No frame at all is the same: the step that is left is the end.
	c.Stack = nil
	if !impl.CurOk(p, c) || impl.Next(p, c) != (impl.Act{Kind: impl.AcReturn}) {
		t.Error("no frame:", impl.CurOk(p, c), impl.Next(p, c))
	}
	if after, ok := impl.Go(p, c, 3); ok || !isNoCur(after) {
		t.Error("Go goes on without a frame:", after)
	}
}

// The block of a choice stands behind the block that the choice is in, be that a Body, a block of a choice, or a loop's.
func TestBlocksOfChoicesWithinFrames(t *testing.T) {
	p := stmtsSet(t, "y = 0; if (y) { } else { for i in 2 { x = i; if (i) { x = 5; } else { x = 6; } z = x; } }")
	got, _ := tracedFrom(t, p, mustStart(t, serial{p: p}), nil)
	wantLines(t, "choices in loops", got, []string{
		"quiet: y=0 / body1", "quiet: y=0 / body2 else0", "quiet: y=0 / body2 else1 for0",
		"quiet: i=0,y=0 / body2 else1 for1 round0", "quiet: i=0,x=0,y=0 / body2 else1 for1 round1", "quiet: i=0,x=0,y=0 / body2 else1 for1 round2 else0", "quiet: i=0,x=6,y=0 / body2 else1 for1 round2 else1", "quiet: i=0,x=6,y=0,z=6 / body2 else1 for1 round3",
		"quiet: i=1,x=6,y=0,z=6 / body2 else1 for2 round0", "quiet: i=1,x=1,y=0,z=6 / body2 else1 for2 round1", "quiet: i=1,x=1,y=0,z=6 / body2 else1 for2 round2 then0", "quiet: i=1,x=5,y=0,z=6 / body2 else1 for2 round2 then1", "quiet: i=1,x=5,y=0,z=5 / body2 else1 for2 round3",
		"quiet: i=1,x=5,y=0,z=5 / body2 else1", "return 0"})
}

func TestStepsOfALoopsVariableThatIsPutAnew(t *testing.T) {
	plainSteps(t, "for i in 2 { i = i * 100 + 7; } return i;").steps(t,
		"quiet:  / body1 for0", "quiet: i=0 / body1 for1 round0", "quiet: i=7 / body1 for1 round1", "quiet: i=1 / body1 for2 round0", "quiet: i=107 / body1 for2 round1", "quiet: i=107 / body1", "return 107")
	plainSteps(t, "i = 50; for i in 2 { i = read A[i]; }", row(0, 0, 1), row(0, 1, -1)).steps(t,
		"quiet: i=50 / body1", "quiet: i=50 / body2 for0", "quiet: i=0 / body2 for1 round0", "read A0: i=1 / body2 for1 round1", "quiet: i=1 / body2 for2 round0", "read A1: i=-1 / body2 for2 round1", "quiet: i=-1 / body2", "return 0")
}

// What the frames say goes on, whatever the variables are.
func TestStepsFromTheMiddle(t *testing.T) {
	p := stmtsSet(t, "if (q) { x = 1; } else { for i in 3 { y = y + i; } } return x + y;")
	choice := p.L[p.L[p.Procs[0].Body].Kids[0]]
	loop := p.L[choice.Kids[2]].Kids[0]
	c := impl.Cur{Vars: []impl.Var{{Name: "i", Val: 40}, {Name: "q", Val: 1}}, Stack: []impl.Frame{{At: p.Procs[0].Body, I: 1}, {At: choice.Kids[2], I: 1}, {At: loop, I: 2}}}
	got, _ := tracedFrom(t, p, c, nil)
	wantLines(t, "a loop's last round", got, []string{"quiet: i=2,q=1 / body1 else1 for3 round0", "quiet: i=2,q=1,y=2 / body1 else1 for3 round1", "quiet: i=2,q=1,y=2 / body1 else1", "return 2"})
	c.Stack = append(c.Stack, impl.Frame{At: p.L[loop].Kids[0], I: 1})
	c.Stack[2].I = 3
	got, _ = tracedFrom(t, p, c, nil)
	wantLines(t, "a loop's end", got, []string{"quiet: i=40,q=1 / body1 else1", "return 0"})
	// A loop of which no round has been begun, and yet a block of it stands there.
	c.Stack[2].I, c.Stack[3].I = 0, 0
	got, _ = tracedFrom(t, p, c, nil)
	if len(got) != 1+3*2+2 || got[0] != "quiet: i=40,q=1,y=40 / body1 else1 for0 round1" || got[1] != "quiet: i=0,q=1,y=40 / body1 else1 for1 round0" || got[len(got)-1] != "return 43" {
		t.Error("a loop with no round begun:", strings.Join(got, "\n"))
	}
	// The block that the choice would not take.
	c.Stack = []impl.Frame{{At: p.Procs[0].Body, I: 1}, {At: choice.Kids[1]}}
	got, _ = tracedFrom(t, p, c, nil)
	wantLines(t, "the other block", got, []string{"quiet: i=40,q=1,x=1 / body1 then1", "return 1"})
	// The Body alone, with its choice behind it.
	got, _ = tracedFrom(t, p, impl.Cur{Stack: []impl.Frame{{At: p.Procs[0].Body, I: 1}}}, nil)
	wantLines(t, "behind the choice", got, []string{"return 0"})
}

func TestStepsOfAnExpressionThatComesToNothing(t *testing.T) {
	state := []impl.Row{row(0, 1, 10)}
	for _, nothing := range []string{"1 / 0", "2 % q", "0 * (1 / 0)", "(1 % 0) / 0", "-(q / q)"} {
		for _, stmt := range []string{
			"x = @;", "x = read A[@];", "write A[@] = 5;", "write A[1] = @;", "write A[@] = @;", "if (@) { x = 1; }", "if (@) { x = 1; } else { x = 2; }", "return @;",
		} {
			stmt = strings.ReplaceAll(stmt, "@", nothing)
			plainSteps(t, stmt+" x = 4;", state...).steps(t, "abort")
			plainSteps(t, "write A[1] = 3; "+stmt, state...).steps(t, "write A1 3:  / body1", "abort")
			plainSteps(t, "if (1) { "+stmt+" }", state...).steps(t, "quiet:  / body1 then0", "abort")
			plainSteps(t, "for i in 2 { if (i) { "+stmt+" } }", state...).steps(t,
				"quiet:  / body1 for0", "quiet: i=0 / body1 for1 round0", "quiet: i=0 / body1 for1 round1", "quiet: i=1 / body1 for2 round0", "quiet: i=1 / body1 for2 round1 then0", "abort")
		}
	}
	// It hangs on what is read.
	s := plainSteps(t, "x = read A[1]; return 30 / x;", state...)
	s.steps(t, "read A1: x=10 / body1", "return 3")
	s.state = nil
	s.steps(t, "read A1: x=0 / body1", "abort")
}

func TestGoRefusesEnds(t *testing.T) {
	for _, stmts := range []string{"", "return 0;", "return 3;", "abort;", "return 1 / 0;", "x = 1 / 0;", "x = read A[1 % 0];", "write A[1 / 0] = 1;", "write A[1] = 1 / 0;", "if (1 / 0) { }"} {
		p := stmtsSet(t, stmts)
		c := mustStart(t, serial{p: p})
		for _, val := range []int{0, 1, -5} {
			if after, ok := impl.Go(p, c, val); ok || !isNoCur(after) {
				t.Errorf("Go goes on at %q: %v", stmts, after)
			}
		}
	}
}

// Only a read takes the val.
func TestGoLeavesOutTheValue(t *testing.T) {
	p := stmtsSet(t, "x = 1; write A[x] = 2; if (x) { y = 3; } if (0) { } for i in 2 { z = read B[i]; }")
	c := mustStart(t, serial{p: p})
	reads := 0
	for range 20 {
		a := impl.Next(p, c)
		if a.Kind == impl.AcReturn {
			break
		}
		first := goOn(t, p, c, 4)
		for _, val := range []int{0, -1, 31337} {
			after := goOn(t, p, c, val)
			if a.Kind == impl.AcRead {
				if impl.VarOf(after.Vars, "z") != val {
					t.Errorf("%d is read, and %v stands there", val, after.Vars)
				}
				after.Vars = impl.PutVar(after.Vars, "z", 4)
				reads++
			}
			if !sameCur(first, after) {
				t.Errorf("%s with 4 and with %d: %v and %v", actText(a), val, first, after)
			}
		}
		c = first
	}
	if reads != 2*3 {
		t.Error("so many were read:", reads)
	}
}

func TestNextChangesNothing(t *testing.T) {
	p := stmtsSet(t, "x = read A[1]; if (x) { write A[1] = x + 1; for i in 2 { x = x + i; } } return x;")
	c := mustStart(t, serial{p: p})
	for n := 0; impl.Next(p, c).Kind != impl.AcReturn; n++ {
		kept := impl.Cur{Proc: c.Proc, Vars: append([]impl.Var{}, c.Vars...), Stack: append([]impl.Frame{}, c.Stack...)}
		want, a := goOn(t, p, c, 5), impl.Next(p, c)
		for range 3 {
			if again := impl.Next(p, c); again != a || !sameCur(c, kept) {
				t.Errorf("Next is %v, then %v; %v is now %v", a, again, kept, c)
			}
		}
		if after := goOn(t, p, c, 5); !sameCur(after, want) {
			t.Errorf("behind Next another step is done: %v, not %v", after, want)
		}
		c = want
		if n > 20 {
			t.Fatal("no end")
		}
	}
}

// As deep as frames can ever stand, and as long as there may be steps.
func TestStepsOfTheDeepestAndTheLongestRuns(t *testing.T) {
	most := 4*impl.MaxStmts + 1
	deep := serial{p: loopsSet(most, 1)}
	deep.takes(t, 3*most+1, impl.Outcome{Kind: impl.OcReturn}, nil)
	c, deepest := mustStart(t, deep), 0
	for range maxTraced {
		if impl.Next(deep.p, c).Kind != impl.AcQuiet {
			break
		}
		c = goOn(t, deep.p, c, 0)
		deepest = max(deepest, len(c.Stack))
	}
	if deepest != 1+2*most {
		t.Error("so many frames:", deepest)
	}
	long, middle, short := nestedLoops("x = x + 1;", 4, 4, 4), nestedLoops("x = x + 1;", 4, 4), nestedLoops("x = x + 1;", 4)
	stmts := strings.Repeat(long, 12) + middle + middle + strings.Repeat(short, 3) + strings.Repeat("x = x + 1;", 6) + "return x;"
	longest := plainSteps(t, stmts)
	longest.takes(t, impl.StepBound(longest.p, 0)-1, impl.Outcome{Kind: impl.OcReturn, Val: 12*64 + 2*16 + 3*4 + 6}, nil)
	plainSteps(t, stmts[:len(stmts)-len("return x;")]+"x = 1;").takes(t, impl.StepBound(longest.p, 0), impl.Outcome{Kind: impl.OcReturn}, nil)
}
