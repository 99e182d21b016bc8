package tests

import (
	"slices"
	"testing"

	"loop.example/g00689/impl"
)

// toldStep is a step with what stands behind it; val is what was read.
type toldStep struct {
	act   impl.Act
	val   int
	after impl.Cur
}

// stepWalk goes on with a run by calls within calls, one for each frame, and notes each step where it happens.
type stepWalk struct {
	p    impl.Set
	cur  impl.Cur
	rows []impl.Row
	told []toldStep
}

// walkEnd ends all calls at once.
type walkEnd struct{}

func (w *stepWalk) tell(act impl.Act, val int) {
	w.told = append(w.told, toldStep{act: act, val: val, after: copyCur(w.cur)})
	if act.Kind == impl.AcReturn || act.Kind == impl.AcAbort {
		panic(walkEnd{})
	}
}

func (w *stepWalk) value(k int) int {
	val, ok := plainEval(w.p, k, func(name string) int { return plainVarOf(w.cur.Vars, name) })
	if !ok {
		w.tell(impl.Act{Kind: impl.AcAbort}, 0)
	}
	return val
}

func (w *stepWalk) put(name string, val int) {
	w.cur.Vars = plainPutVar(w.cur.Vars, name, val)
}

// into begins something that has a frame, and goes on in it until it is through.
func (w *stepWalk) into(at int) {
	w.cur.Stack = append(w.cur.Stack, impl.Frame{At: at})
	w.tell(impl.Act{Kind: impl.AcQuiet}, 0)
	w.frame(len(w.cur.Stack) - 1)
}

// frame goes on with a frame, and first with those that stand behind it.
func (w *stepWalk) frame(depth int) {
	if depth+1 < len(w.cur.Stack) {
		w.frame(depth + 1)
	}
	x := w.p.L[w.cur.Stack[depth].At]
	if x.Kind == impl.NkFor {
		for i := w.cur.Stack[depth].I; i < x.N; i++ {
			w.put(x.S, i)
			w.cur.Stack[depth].I = i + 1
			w.into(x.Kids[0])
		}
		w.cur.Stack = w.cur.Stack[:depth]
		w.tell(impl.Act{Kind: impl.AcQuiet}, 0)
		return
	}
	for _, kid := range x.Kids[w.cur.Stack[depth].I:] {
		w.cur.Stack[depth].I++
		w.statement(kid)
	}
	w.cur.Stack = w.cur.Stack[:depth]
}

func (w *stepWalk) statement(k int) {
	x := w.p.L[k]
	switch x.Kind {
	case impl.NkSet:
		w.put(x.S, w.value(x.Kids[0]))
		w.tell(impl.Act{Kind: impl.AcQuiet}, 0)
	case impl.NkRead:
		key := impl.Key{T: x.N, R: w.value(x.Kids[0])}
		val := plainRowOf(w.rows, key)
		w.put(x.S, val)
		w.tell(impl.Act{Kind: impl.AcRead, K: key}, val)
	case impl.NkWrite:
		key, val := impl.Key{T: x.N, R: w.value(x.Kids[0])}, w.value(x.Kids[1])
		w.rows = plainPutRow(w.rows, key, val)
		w.tell(impl.Act{Kind: impl.AcWrite, K: key, Val: val}, 0)
	case impl.NkIf:
		if w.value(x.Kids[0]) != 0 {
			w.into(x.Kids[1])
		} else if len(x.Kids) == 3 {
			w.into(x.Kids[2])
		} else {
			w.tell(impl.Act{Kind: impl.AcQuiet}, 0)
		}
	case impl.NkFor:
		w.into(k)
	case impl.NkReturn:
		w.tell(impl.Act{Kind: impl.AcReturn, Val: w.value(x.Kids[0])}, 0)
	default:
		w.tell(impl.Act{Kind: impl.AcAbort}, 0)
	}
}

// walkFrom has all steps from c on, and the rows behind the last one.
func walkFrom(p impl.Set, c impl.Cur, rows []impl.Row) ([]toldStep, []impl.Row) {
	w := &stepWalk{p: p, cur: copyCur(c), rows: slices.Clone(rows)}
	func() {
		defer func() {
			if end := recover(); end != (walkEnd{}) {
				panic(end)
			}
		}()
		if len(w.cur.Stack) > 0 {
			w.frame(0)
		}
		w.tell(impl.Act{Kind: impl.AcReturn}, 0)
	}()
	return w.told, w.rows
}

// wantWalk holds each step from c on against the walk's. What is no read gets a value that it is to leave out.
func wantWalk(t *testing.T, d *dice, p impl.Set, c impl.Cur, rows []impl.Row) []toldStep {
	t.Helper()
	told, _ := walkFrom(p, c, rows)
	for n, x := range told {
		if a := impl.Next(p, c); a != x.act || !impl.CurOk(p, c) {
			t.Fatalf("%s\nstep %d from %s: %v, not %v", impl.SetText(p), n, curText(p, c), a, x.act)
		}
		val := x.val
		if x.act.Kind != impl.AcRead {
			val = drawEdge(d)
		}
		after, ok := impl.Go(p, c, val)
		if last := n == len(told)-1; last {
			if ok || !isNoCur(after) {
				t.Fatalf("%s\nthe end is gone beyond: %v", impl.SetText(p), after)
			}
			break
		}
		if !ok || !sameCur(after, x.after) {
			t.Fatalf("%s\nstep %d from %s: %v and %v, not %v", impl.SetText(p), n, curText(p, c), after, ok, x.after)
		}
		c = after
	}
	return told
}

// Promise 7: by steps a procedure does what it does at once, in no more steps than its bound.
func TestPromise7(t *testing.T) {
	d := dice(7)
	returned, fell, aborted, wrote, most := 0, 0, 0, 0, 0
	for range 700 {
		p := drawRunnable(t, &d)
		for k, proc := range p.Procs {
			s := serial{p: p, k: k, args: drawArgs(&d, len(proc.Params)), state: drawState(&d)}
			want, rows := plainRun(s.p, s.k, s.args, s.state)
			told := wantWalk(t, &d, p, mustStart(t, s), s.state)
			s.takes(t, len(told), want, rows)
			if len(told) > plainBound(p, k) {
				t.Errorf("%s\nprocedure %d takes %d steps", impl.SetText(p), k, len(told))
			}
			switch {
			case want.Kind == impl.OcAbort:
				aborted++
			case want.Val != 0:
				returned++
			default:
				fell++
			}
			if !sameRows(rows, s.state) {
				wrote++
			}
			if len(told) == plainBound(p, k) {
				most++
			}
			if t.Failed() {
				t.FailNow()
			}
		}
	}
	if returned < 50 || fell < 250 || aborted < 150 || wrote < 250 || most < 100 {
		t.Error("too few of a kind:", returned, fell, aborted, wrote, most)
	}
}

// drawBegun draws how much of a block has been begun, mostly so that something may stand within it.
func drawBegun(d *dice, p impl.Set, block impl.Node) int {
	for range 4 {
		i := d.below(len(block.Kids) + 1)
		if i > 0 && (p.L[block.Kids[i-1]].Kind == impl.NkIf || p.L[block.Kids[i-1]].Kind == impl.NkFor) {
			return i
		}
	}
	return d.below(len(block.Kids) + 1)
}

// drawStack goes down from the Body for a while, with any numbers that may be.
func drawStack(d *dice, p impl.Set, k int) []impl.Frame {
	var stack []impl.Frame
	for at := p.Procs[k].Body; d.below(12) > 0; {
		x := p.L[at]
		if x.Kind == impl.NkFor {
			stack = append(stack, impl.Frame{At: at, I: d.below(x.N + 1)})
			at = x.Kids[0]
			continue
		}
		i := drawBegun(d, p, x)
		stack = append(stack, impl.Frame{At: at, I: i})
		if i == 0 || p.L[x.Kids[i-1]].Kind != impl.NkIf && p.L[x.Kids[i-1]].Kind != impl.NkFor {
			break
		}
		at = x.Kids[i-1]
		if p.L[at].Kind == impl.NkIf {
			at = p.L[at].Kids[1+d.below(len(p.L[at].Kids)-1)]
		}
	}
	return stack
}

func drawVars(d *dice) []impl.Var {
	var l []impl.Var
	for range d.below(5) {
		l = plainPutVar(l, (&drawSrc{d: d}).name(), drawArgs(d, 1)[0])
	}
	return l
}

// From any place at all, not only from those to which a run from the beginning comes.
func TestPromise7FromAnyPlace(t *testing.T) {
	d := dice(77)
	deep, ended, long := 0, 0, 0
	for range 4000 {
		p := drawRunnable(t, &d)
		k := d.below(len(p.Procs))
		c := impl.Cur{Proc: k, Vars: drawVars(&d), Stack: drawStack(&d, p, k)}
		told := wantWalk(t, &d, p, c, drawState(&d))
		if len(c.Stack) > 3 {
			deep++
		}
		if len(told) == 1 {
			ended++
		}
		if len(told) > 10 {
			long++
		}
	}
	if deep < 100 || ended < 500 || long < 100 {
		t.Error("too few of a kind:", deep, ended, long)
	}
}

// ownerOf is the node of which k is a kid, or -1.
func ownerOf(p impl.Set, k int) int {
	return slices.IndexFunc(p.L, func(x impl.Node) bool { return slices.Contains(x.Kids, k) })
}

// plainStackOk goes up from each frame to the one ahead of it.
func plainStackOk(p impl.Set, k int, stack []impl.Frame) bool {
	for i, f := range stack {
		if f.At < 0 || f.At >= len(p.L) || f.I < 0 {
			return false
		}
		x := p.L[f.At]
		if x.Kind != impl.NkBlock && x.Kind != impl.NkFor || x.Kind == impl.NkBlock && f.I > len(x.Kids) || x.Kind == impl.NkFor && f.I > x.N {
			return false
		}
		if i == 0 {
			if f.At != p.Procs[k].Body {
				return false
			}
			continue
		}
		begun, owner := f.At, ownerOf(p, f.At)
		if owner >= 0 && p.L[owner].Kind == impl.NkIf {
			begun, owner = owner, ownerOf(p, owner)
		}
		if owner != stack[i-1].At {
			return false
		}
		if p.L[owner].Kind == impl.NkBlock && slices.Index(p.L[owner].Kids, begun) != stack[i-1].I-1 {
			return false
		}
	}
	return len(stack) <= 200
}

func plainCurOk(p impl.Set, c impl.Cur) bool {
	return plainTargetOk(p) && c.Proc >= 0 && c.Proc < len(p.Procs) && plainVarsOk(c.Vars) && plainStackOk(p, c.Proc, c.Stack)
}

// spoilCur does one thing to a copy of c.
func spoilCur(d *dice, p impl.Set, c impl.Cur) impl.Cur {
	c = copyCur(c)
	n, v := len(c.Stack), len(c.Vars)
	switch k := d.below(9); {
	case k == 0:
		c.Proc = d.below(6) - 1
	case k == 1 && v > 1:
		i, j := d.below(v), d.below(v)
		c.Vars[i], c.Vars[j] = c.Vars[j], c.Vars[i]
	case k == 2:
		c.Vars = append(c.Vars, impl.Var{Name: (&drawSrc{d: d}).name(), Val: 1})
	case k == 3 && n > 0:
		c.Stack[d.below(n)].At = drawPlace(d, p)
	case k == 4 && n > 0:
		c.Stack[d.below(n)].I += d.below(5) - 2
	case k == 5 && n > 0:
		i := d.below(n)
		c.Stack = slices.Delete(c.Stack, i, i+1)
	case k == 6 && n > 1:
		i := 1 + d.below(n-1)
		c.Stack[i-1], c.Stack[i] = c.Stack[i], c.Stack[i-1]
	case k == 7 && n > 0:
		c.Stack = append(c.Stack, c.Stack[d.below(n)])
	default:
		c.Stack = append(c.Stack, impl.Frame{At: drawPlace(d, p), I: d.below(4)})
	}
	return c
}

// Spoilt sets, and spoilt runs of right ones, are refused, or go on as the walk has it.
func TestPromise7OfSpoiltOnes(t *testing.T) {
	d := dice(707)
	refused, went := 0, 0
	for range 6000 {
		p := drawRunnable(t, &d)
		k := d.below(len(p.Procs))
		c := impl.Cur{Proc: k, Vars: drawVars(&d), Stack: drawStack(&d, p, k)}
		if d.below(3) == 0 {
			p = spoilSet(&d, p)
		} else {
			c = spoilCur(&d, p, c)
		}
		if plainCurOk(p, c) {
			wantWalk(t, &d, p, c, drawState(&d))
			went++
		} else {
			wantNoCur(t, "a spoilt one", p, c)
			refused++
		}
		s := serial{p: p, k: c.Proc, args: drawArgs(&d, d.below(4)), state: drawState(&d)}
		if !plainTargetOk(p) || s.k < 0 || s.k >= len(p.Procs) || len(s.args) != len(p.Procs[s.k].Params) {
			s.cannotStart(t, "a spoilt one")
		} else {
			want, rows := plainRun(s.p, s.k, s.args, s.state)
			s.takes(t, len(wantWalk(t, &d, p, mustStart(t, s), s.state)), want, rows)
		}
		if t.Failed() {
			t.FailNow()
		}
	}
	if refused < 1500 || went < 1000 {
		t.Error("too few of a kind:", refused, went)
	}
}
