package tests

import (
	"math"
	"slices"
	"testing"

	"loop.example/g00689/impl"
)

// undone is what a plain run still has to do: a node, or, of a round, a number that is put under a name.
type undone struct {
	node  int
	round bool
	name  string
	val   int
}

// plainAlone has what is still to be done in one list, with rounds written out one behind the other.
type plainAlone struct {
	p    impl.Set
	vars map[string]int
	rows []impl.Row
	todo []undone
}

func (a *plainAlone) value(k int) (int, bool) {
	return plainEval(a.p, k, func(name string) int { return a.vars[name] })
}

func (a *plainAlone) first(l ...undone) {
	a.todo = append(l, a.todo...)
}

func (a *plainAlone) rounds(x impl.Node) {
	var l []undone
	for i := range x.N {
		l = append(l, undone{round: true, name: x.S, val: i}, undone{node: x.Kids[0]})
	}
	a.first(l...)
}

func (a *plainAlone) block(kids []int) {
	var l []undone
	for _, kid := range kids {
		l = append(l, undone{node: kid})
	}
	a.first(l...)
}

// step does one thing; true says that all ends with it.
func (a *plainAlone) step(x impl.Node) (impl.Outcome, bool) {
	var vals []int
	for _, kid := range x.Kids {
		if a.p.L[kid].Kind > impl.NkSame {
			break
		}
		val, ok := a.value(kid)
		if !ok {
			return impl.Outcome{Kind: impl.OcAbort}, true
		}
		vals = append(vals, val)
	}
	switch x.Kind {
	case impl.NkBlock:
		a.block(x.Kids)
	case impl.NkFor:
		a.rounds(x)
	case impl.NkSet:
		a.vars[x.S] = vals[0]
	case impl.NkRead:
		a.vars[x.S] = plainRowOf(a.rows, impl.Key{T: x.N, R: vals[0]})
	case impl.NkWrite:
		a.rows = plainPutRow(a.rows, impl.Key{T: x.N, R: vals[0]}, vals[1])
	case impl.NkIf:
		if vals[0] != 0 {
			a.first(undone{node: x.Kids[1]})
		} else if len(x.Kids) > 2 {
			a.first(undone{node: x.Kids[2]})
		}
	case impl.NkReturn:
		return impl.Outcome{Kind: impl.OcReturn, Val: vals[0]}, true
	default:
		return impl.Outcome{Kind: impl.OcAbort}, true
	}
	return impl.Outcome{}, false
}

func plainRun(p impl.Set, k int, args []int, state []impl.Row) (impl.Outcome, []impl.Row) {
	a := &plainAlone{p: p, vars: map[string]int{}, rows: slices.Clone(state), todo: []undone{{node: p.Procs[k].Body}}}
	for i, name := range p.Procs[k].Params {
		a.vars[name] = args[i]
	}
	for len(a.todo) > 0 {
		x := a.todo[0]
		a.todo = slices.Clone(a.todo[1:])
		if x.round {
			a.vars[x.name] = x.val
			continue
		}
		if end, all := a.step(p.L[x.node]); all && end.Kind == impl.OcAbort {
			return end, state
		} else if all {
			return end, a.rows
		}
	}
	return impl.Outcome{Kind: impl.OcReturn}, a.rows
}

// calm draws an expression that comes to something, mostly.
func (g *drawSrc) calm(size int) {
	switch k := g.d.below(12); {
	case k < 4 && size > 0:
		g.put("(")
		g.calm(size - 1)
		g.put(g.one("+", "-", "*", "<", "=="))
		g.calm(size - 1)
		g.put(")")
	case k == 4 && size > 0:
		g.put("-")
		g.calm(size - 1)
	case k == 5 && size > 0:
		g.put("(")
		g.calm(size - 1)
		g.put(g.one("/", "%"), g.one("2", "3", "-1", "-5", g.name()), ")")
	case k < 8:
		g.put(g.one("0", "1", "2", "7", "999999999"))
	default:
		g.put(g.name())
	}
}

// key draws few keys, so that rows are met again.
func (g *drawSrc) key() {
	g.put(g.table(), "[")
	if g.d.below(3) == 0 {
		g.put(g.one("0", "1", "-1"))
	} else {
		g.put(g.name(), "%", "2")
	}
	g.put("]")
}

func (g *drawSrc) deed(size int) {
	switch k := g.d.below(24); {
	case k < 4 && size > 0:
		g.put("if", "(")
		g.calm(2)
		g.put(")")
		g.deeds(size - 1)
		if k < 2 {
			g.put("else")
			g.deeds(size - 1)
		}
	case k < 8 && size > 0:
		g.put("for", g.name(), "in", g.one("1", "2", "3", "4"))
		g.deeds(size - 1)
	case k < 13:
		g.put(g.name(), "=", "read")
		g.key()
		g.put(";")
	case k < 18:
		g.put("write")
		g.key()
		g.put("=")
		g.calm(2)
		g.put(";")
	case k == 18 && g.d.below(2) == 0:
		g.put("abort", ";")
	case k == 19:
		g.put("return")
		g.calm(2)
		g.put(";")
	default:
		g.put(g.name(), "=")
		g.calm(3)
		g.put(";")
	}
}

func (g *drawSrc) deeds(size int) {
	g.put("{")
	for range g.d.below(6) {
		g.deed(size)
	}
	g.put("}")
}

// drawRunnable draws a set that may be run, with the table of conflicts and with numbers at the edges in it.
func drawRunnable(t *testing.T, d *dice) impl.Set {
	t.Helper()
	for {
		g := &drawSrc{d: d}
		for range 1 + d.below(impl.MaxProcs) {
			g.put("proc", g.name(), "(")
			for i := range d.below(impl.MaxParams + 1) {
				g.put([]string{"", ","}[min(i, 1)], g.name())
			}
			g.put(")")
			g.deeds(3)
		}
		p, at := impl.Parse(joined(d, g.words))
		if at != -1 || !impl.TargetOk(p) {
			continue
		}
		for i, x := range p.L {
			if x.Kind == impl.NkWrite && d.below(8) == 0 {
				p.L[i].N = 4
			}
			if x.Kind == impl.NkNum && d.below(12) == 0 {
				p.L[i].N = drawEdge(d)
			}
		}
		return p
	}
}

func drawEdge(d *dice) int {
	return []int{math.MinInt, math.MinInt + 1, -1, 0, 1, math.MaxInt}[d.below(6)]
}

func drawArgs(d *dice, n int) []int {
	var args []int
	for range n {
		if d.below(4) == 0 {
			args = append(args, drawEdge(d))
		} else {
			args = append(args, d.below(9)-4)
		}
	}
	return args
}

func drawState(d *dice) []impl.Row {
	var l []impl.Row
	for table := range impl.Tables {
		for r := -1; r <= 1; r++ {
			if d.below(2) == 0 {
				l = append(l, row(table, r, 1+d.below(9)))
			}
		}
	}
	return l
}

// joinedSets has the procedures of a, and behind them those of b.
func joinedSets(a, b impl.Set) impl.Set {
	a, b = copySet(a), copySet(b)
	n := len(a.L)
	for _, x := range b.L {
		for i := range x.Kids {
			x.Kids[i] += n
		}
		a.L = append(a.L, x)
	}
	for _, proc := range b.Procs {
		proc.Body += n
		a.Procs = append(a.Procs, proc)
	}
	return a
}

// onlyProc is the set of procedure k alone, under another name.
func onlyProc(p impl.Set, k int) impl.Set {
	var out impl.Set
	var walk func(k int) int
	walk = func(k int) int {
		x := p.L[k]
		x.Kids = slices.Clone(x.Kids)
		// From the back, so that the nodes stand in another order, too.
		for i := len(x.Kids) - 1; i >= 0; i-- {
			x.Kids[i] = walk(x.Kids[i])
		}
		out.L = append(out.L, x)
		return len(out.L) - 1
	}
	out.Procs = []impl.Proc{{Name: "other", Params: slices.Clone(p.Procs[k].Params), Body: walk(p.Procs[k].Body)}}
	return out
}

// Promise 6: what a procedure does alone hangs on its arguments and the rows alone; who gives up leaves all as it was.
func wantPromise6(t *testing.T, d *dice, s serial) impl.Outcome {
	t.Helper()
	want, rows := plainRun(s.p, s.k, s.args, s.state)
	s.ends(t, want, rows)
	if want.Kind == impl.OcAbort && !sameRows(rows, s.state) || !impl.RowsOk(rows) {
		t.Fatal("the plain run itself is wrong:", rows)
	}
	one := onlyProc(s.p, s.k)
	serial{p: one, args: s.args, state: s.state}.ends(t, want, rows)
	other := onlyProc(drawRunnable(t, d), 0)
	serial{p: joinedSets(one, other), args: s.args, state: s.state}.ends(t, want, rows)
	serial{p: joinedSets(other, one), k: 1, args: s.args, state: s.state}.ends(t, want, rows)
	serial{p: joinedSets(joinedSets(other, one), other), k: 1, args: s.args, state: s.state}.ends(t, want, rows)
	turned := copySet(s.p)
	slices.Reverse(turned.Procs)
	serial{p: turned, k: len(turned.Procs) - 1 - s.k, args: s.args, state: s.state}.ends(t, want, rows)
	s.ends(t, want, rows)
	return want
}

func TestPromise6(t *testing.T) {
	d := dice(6)
	returned, fell, aborted, wrote := 0, 0, 0, 0
	for range 1500 {
		p := drawRunnable(t, &d)
		for k, proc := range p.Procs {
			s := serial{p: p, k: k, args: drawArgs(&d, len(proc.Params)), state: drawState(&d)}
			end := wantPromise6(t, &d, s)
			_, rows := impl.RunSerial(s.p, s.k, s.args, s.state)
			switch {
			case end.Kind == impl.OcAbort:
				aborted++
			case end.Val != 0:
				returned++
			default:
				fell++
			}
			if !sameRows(rows, s.state) {
				wrote++
			}
			if t.Failed() {
				t.FailNow()
			}
		}
	}
	if returned < 100 || fell < 500 || aborted < 300 || wrote < 500 {
		t.Error("too few of a kind:", returned, fell, aborted, wrote)
	}
}

// Each expression of drawn sets, with variables in any order.
func TestPromise6OfExpressions(t *testing.T) {
	d := dice(66)
	told, nothing := 0, 0
	for range 3000 {
		p := drawRunnable(t, &d)
		var l []impl.Var
		for range d.below(8) {
			l = append(l, impl.Var{Name: (&drawSrc{d: &d}).name(), Val: drawArgs(&d, 1)[0]})
		}
		k := d.below(len(p.L))
		if p.L[k].Kind > impl.NkSame {
			wantNothing(t, "no expression", p, k, l)
			continue
		}
		want, ok := plainEval(p, k, func(s string) int { return plainVarOf(l, s) })
		if ok {
			told++
			wantEval(t, p, k, l, want)
		} else {
			nothing++
			wantNothing(t, "a drawn expression", p, k, l)
		}
	}
	if told < 1000 || nothing < 10 {
		t.Error("too few of a kind:", told, nothing)
	}
}

// Spoilt sets are refused, or run as the plain reading has it.
func TestPromise6OfSpoiltSets(t *testing.T) {
	d := dice(606)
	refused, run := 0, 0
	for range 4000 {
		p := spoilSet(&d, drawRunnable(t, &d))
		k := d.below(len(p.Procs)+2) - 1
		s := serial{p: p, k: k, state: drawState(&d)}
		if k >= 0 && k < len(p.Procs) {
			s.args = drawArgs(&d, len(p.Procs[k].Params))
		}
		if d.below(10) == 0 {
			s.args = append(s.args, 1)
		}
		if d.below(10) == 0 {
			s.state = append(s.state, row(d.below(7)-1, d.below(3), d.below(2)))
		}
		if !plainTargetOk(p) || k < 0 || k >= len(p.Procs) || len(s.args) != len(p.Procs[k].Params) || !plainRowsOk(s.state) {
			refused++
			s.isRefused(t)
		} else {
			run++
			want, rows := plainRun(s.p, s.k, s.args, s.state)
			s.ends(t, want, rows)
		}
		if t.Failed() {
			t.FailNow()
		}
	}
	if refused < 1000 || run < 500 {
		t.Error("too few of a kind:", refused, run)
	}
}
