package tests

import (
	"slices"
	"strconv"
	"testing"

	"loop.example/g00689/impl"
)

// mendTree is a node with its kids in it, so that statements can be put anywhere; from is its number in the set that it is of, and -1, if it is put in addition.
type mendTree struct {
	node impl.Node
	from int
	kids []*mendTree
}

func treeOf(p impl.Set, k int) *mendTree {
	w := &mendTree{node: p.L[k], from: k}
	for _, kid := range p.L[k].Kids {
		w.kids = append(w.kids, treeOf(p, kid))
	}
	return w
}

func added(kind int, s string, n int, kids ...*mendTree) *mendTree {
	return &mendTree{node: impl.Node{Kind: kind, S: s, N: n}, from: -1, kids: kids}
}

func addedMark(row int) *mendTree {
	return added(impl.NkWrite, "", 4, added(impl.NkNum, "", row), added(impl.NkNum, "", 1))
}

// all goes through the nodes, each behind its kids.
func (w *mendTree) all(do func(w *mendTree)) {
	for _, kid := range w.kids {
		kid.all(do)
	}
	do(w)
}

func treesOf(p impl.Set) []*mendTree {
	var l []*mendTree
	for _, proc := range p.Procs {
		l = append(l, treeOf(p, proc.Body))
	}
	return l
}

// inOrder has the procedures of p with these Bodies, and whether that may be run.
func inOrder(p impl.Set, bodies []*mendTree) (impl.Set, bool) {
	out := impl.Set{}
	at := map[*mendTree]int{}
	for k, body := range bodies {
		body.all(func(w *mendTree) {
			x := impl.Node{Kind: w.node.Kind, S: w.node.S, N: w.node.N}
			for _, kid := range w.kids {
				x.Kids = append(x.Kids, at[kid])
			}
			at[w] = len(out.L)
			out.L = append(out.L, x)
		})
		out.Procs = append(out.Procs, impl.Proc{Name: p.Procs[k].Name, Params: p.Procs[k].Params, Body: at[body]})
	}
	if !plainTargetOk(out) {
		return impl.Set{}, false
	}
	return out, true
}

// instead puts into each block other statements for each one.
func (w *mendTree) instead(of func(w *mendTree) []*mendTree) {
	w.all(func(w *mendTree) {
		if w.node.Kind != impl.NkBlock {
			return
		}
		var kids []*mendTree
		for _, kid := range w.kids {
			kids = append(kids, of(kid)...)
		}
		w.kids = kids
	})
}

// plainMending is a set that may be run, with its accesses.
type plainMending struct {
	p   impl.Set
	all [][]impl.Access
}

func plainMendingOf(p impl.Set) plainMending {
	m := plainMending{p: p}
	for k := range p.Procs {
		m.all = append(m.all, plainAccesses(p, k))
	}
	return m
}

// promote asks for the names anew at each read.
func (m plainMending) promote(a, b int) (impl.Set, bool) {
	meets := map[int]bool{}
	for _, x := range m.all[a] {
		for _, y := range m.all[b] {
			if !x.Write && y.Write && plainOverlap(x, y) && !x.Same {
				meets[x.Node] = true
			}
		}
	}
	bodies := treesOf(m.p)
	fresh := map[int]string{}
	names := slices.Clone(m.p.Procs[a].Params)
	bodies[a].all(func(w *mendTree) { names = append(names, w.node.S) })
	bodies[a].all(func(w *mendTree) {
		if meets[w.from] {
			n := 0
			for slices.Contains(names, "$"+strconv.Itoa(n)) {
				n++
			}
			fresh[w.from] = "$" + strconv.Itoa(n)
			names = append(names, fresh[w.from])
		}
	})
	bodies[a].instead(func(w *mendTree) []*mendTree {
		name, found := fresh[w.from]
		if !found {
			return []*mendTree{w}
		}
		x, t := w.node.S, w.node.N
		return []*mendTree{
			added(impl.NkSet, name, 0, w.kids[0]),
			added(impl.NkRead, x, t, added(impl.NkVar, name, 0)),
			added(impl.NkWrite, "", t, added(impl.NkVar, name, 0), added(impl.NkVar, x, 0)),
		}
	})
	return inOrder(m.p, bodies)
}

// plainLastGuard is the statement behind which the guards of k end, which may be k.
func plainLastGuard(p impl.Set, k int) int {
	kids := p.L[ownerOf(p, k)].Kids
	last := k
	for _, behind := range kids[slices.Index(kids, k)+1:] {
		if _, isMark := plainMark(p, behind); !isMark && !plainReturn(p, k, behind) {
			break
		}
		last = behind
	}
	return last
}

func (m plainMending) mark(a, b int) (impl.Set, bool) {
	behind := map[int]bool{}
	for _, x := range m.all[a] {
		for _, y := range m.all[b] {
			if x.Write || !y.Write || !plainOverlap(x, y) || plainCovered(x, y) {
				continue
			}
			for _, one := range []impl.Access{x, y} {
				if !slices.Contains(one.Rows, 1) {
					behind[plainLastGuard(m.p, one.Node)] = true
				}
			}
		}
	}
	bodies := treesOf(m.p)
	for _, body := range bodies {
		body.instead(func(w *mendTree) []*mendTree {
			if behind[w.from] {
				return []*mendTree{w, addedMark(1)}
			}
			return []*mendTree{w}
		})
	}
	return inOrder(m.p, bodies)
}

func (m plainMending) markAll() (impl.Set, bool) {
	bodies := treesOf(m.p)
	for _, body := range bodies {
		body.kids = append([]*mendTree{addedMark(0)}, body.kids...)
	}
	return inOrder(m.p, bodies)
}

func (m plainMending) dangers() []impl.Danger {
	return plainEdgesOf(m.all).dangers(len(m.p.Procs))
}

func (m plainMending) vulns() []impl.Danger {
	return plainEdgesOf(m.all).vulnerable(len(m.p.Procs))
}

// helps says whether q is vulnerable in fewer places, and nowhere where m is not.
func (m plainMending) helps(q plainMending, s *rewritten) bool {
	taken, added := m.vulns(), 0
	for _, v := range q.vulns() {
		if at := slices.Index(taken, v); at >= 0 {
			taken = slices.Delete(taken, at, at+1)
		} else {
			added++
		}
	}
	count(&s.takesNone, len(taken) == 0)
	count(&s.takesOne, len(taken) == added && added > 0)
	count(&s.takesMore, len(taken) > added && added > 0)
	return len(taken) > 0 && added == 0
}

// rewrite goes on for as many mends as there may be edges.
func (m plainMending) rewrite(s *rewritten) (impl.Set, []impl.Mend) {
	p, _ := inOrder(m.p, treesOf(m.p))
	m = plainMendingOf(p)
	var mends []impl.Mend
	for range impl.MaxProcs*impl.MaxProcs + 1 {
		l := m.dangers()
		if len(l) == 0 {
			break
		}
		a, b := l[0].A, l[0].B
		promoted, ok := m.promote(a, b)
		if next := plainMendingOf(promoted); ok && m.helps(next, s) {
			m, mends = next, append(mends, impl.Mend{Kind: impl.MdPromote, A: a, B: b})
			continue
		}
		marked, _ := m.mark(a, b)
		m, mends = plainMendingOf(marked), append(mends, impl.Mend{Kind: impl.MdMark, A: a, B: b})
	}
	return m.p, mends
}

// wantPlainMend holds what is answered against the plain reading.
func wantPlainMend(t *testing.T, what string, p, got impl.Set, ok bool, want impl.Set, fine bool) {
	t.Helper()
	if ok != fine || !plainSet(got, want) {
		t.Fatalf("%s of\n%s%v\nis %v\n%s%v\nnot %v\n%s%v", what, impl.SetText(p), p, ok, impl.SetText(got), got, fine, impl.SetText(want), want)
	}
	if ok && !wholeTree(got) {
		t.Fatalf("%s of\n%sis not in order: %v", what, impl.SetText(p), got)
	}
}

// wantPlainMends asks for each mend of a set that may be run; it answers one that was made.
func wantPlainMends(t *testing.T, d *dice, p impl.Set) impl.Set {
	t.Helper()
	m := plainMendingOf(p)
	var one impl.Set
	for a := range p.Procs {
		for b := range p.Procs {
			want, fine := m.promote(a, b)
			promoted, ok := impl.Promote(p, a, b)
			wantPlainMend(t, "Promote", p, promoted, ok, want, fine)
			want, fine = m.mark(a, b)
			marked, ok := impl.Mark(p, a, b)
			wantPlainMend(t, "Mark", p, marked, ok, want, fine)
			if ok {
				wantEdgesGone(t, p, marked, a, b)
			}
			one = []impl.Set{one, promoted, marked}[d.below(3)]
		}
	}
	want, fine := m.markAll()
	all, ok := impl.MarkAll(p)
	wantPlainMend(t, "MarkAll", p, all, ok, want, fine)
	if l := impl.VulnList(all); len(l) != 0 {
		t.Fatalf("%sis vulnerable: %v", impl.SetText(all), l)
	}
	if len(one.L) == 0 {
		return all
	}
	return one
}

// wantEdgesGone asks for the edges of a mark: one of VulnList is taken away, none is added.
func wantEdgesGone(t *testing.T, p, marked impl.Set, a, b int) {
	t.Helper()
	old := impl.VulnList(p)
	for _, v := range impl.VulnList(marked) {
		if v.A == a && v.B == b || !slices.Contains(old, v) {
			t.Fatalf("%sis marked for %d and %d, and vulnerable from %d to %d:\n%s", impl.SetText(p), a, b, v.A, v.B, impl.SetText(marked))
		}
	}
}

// wantSameAlone runs each procedure of both from the same rows with the same arguments.
func wantSameAlone(t *testing.T, d *dice, p, q impl.Set, aborts *int) {
	t.Helper()
	for k, proc := range p.Procs {
		args, state := drawArgs(d, len(proc.Params)), drawState(d)
		want, rows := impl.RunSerial(p, k, args, state)
		got, after := impl.RunSerial(q, k, args, state)
		if got != want || !sameRows(plainUserRows(after), plainUserRows(rows)) {
			t.Fatalf("procedure %d of\n%sends with %v and %v; mended it is\n%sand ends with %v and %v", k, impl.SetText(p), want, rows, impl.SetText(q), got, after)
		}
		if want.Kind == impl.OcAbort {
			*aborts++
		}
	}
}

// What is mended of sets that may be run, of all kinds.
func TestPromise9OfEachMend(t *testing.T) {
	d := dice(9)
	aborts, changed := 0, 0
	for range 350 {
		for _, p := range []impl.Set{drawGuarded(t, &d), drawRunnable(t, &d)} {
			one := wantPlainMends(t, &d, p)
			wantSameAlone(t, &d, p, one, &aborts)
			count(&changed, len(one.L) != len(p.L))
		}
	}
	if aborts < 100 || changed < 200 {
		t.Error("too few of a kind:", aborts, changed)
	}
}

// A set that is mended may be mended again, until there is no room left.
func TestPromise9OfMendsOfMends(t *testing.T) {
	d := dice(99)
	aborts, refused := 0, 0
	for range 16 {
		first := drawGuarded(t, &d)
		p := first
		for range 140 {
			a, b := d.below(len(p.Procs)), d.below(len(p.Procs))
			q, ok := impl.MarkAll(p)
			switch d.below(12) {
			case 0:
				q, ok = impl.Promote(p, a, b)
			case 1:
				q, ok = impl.Mark(p, a, b)
			}
			if !ok {
				wantPlainMends(t, &d, p)
				refused++
				break
			}
			p = q
		}
		wantSameAlone(t, &d, first, p, &aborts)
	}
	if refused < 12 || aborts < 1 {
		t.Error("too few of a kind:", refused, aborts)
	}
}

// drawWritten draws a set that may be written, with few rows, so that its procedures disturb each other.
func drawWritten(t *testing.T, d *dice) impl.Set {
	t.Helper()
	for {
		g := &drawSrc{d: d}
		tables := []string{"A", "B", "C", "D"}[:1+d.below(4)]
		for k := range 1 + d.below(impl.MaxProcs) {
			g.put("proc", "p"+strconv.Itoa(k), "(", g.one("v", "w", "x"), ")")
			g.guardeds(d.below(3), tables)
		}
		p, at := impl.Parse(joined(d, g.words))
		if at == -1 && impl.SourceOk(p) {
			return p
		}
	}
}

// crowd draws an access of few rows, in a block now and then.
func (g *drawSrc) crowd() {
	table, key := g.one("A", "B", "C"), g.one("0", "1", "v", "w")
	switch g.d.below(14) {
	case 0:
		g.put("w", "=", g.one("0", "1", "v"), ";")
	case 1:
		g.put("if", "(", "v", ")", "{")
		g.crowd()
		g.put("}", "else", "{", "}")
	case 2:
		g.put("for", "i", "in", "2", "{")
		g.crowd()
		g.put("}")
	case 3:
		g.put("x", "=", "read", table, "[", "v", "]", ";", "write", table, "[", "v", "]", "=", "x", ";")
	case 4, 5, 6, 7, 8:
		g.put("write", table, "[", key, "]", "=", "x", "+", "1", ";")
	default:
		g.put("x", "=", "read", table, "[", key, "]", ";")
	}
}

// drawCrowded draws a set that may be written, in which a mend of one danger is likely to be another one's.
func drawCrowded(t *testing.T, d *dice) impl.Set {
	t.Helper()
	g := &drawSrc{d: d}
	for k := range 2 + d.below(impl.MaxProcs-1) {
		g.put("proc", "p"+strconv.Itoa(k), "(", "v", ")", "{")
		for range 1 + d.below(5) {
			g.crowd()
		}
		g.put("return", "x", ";", "}")
	}
	return mustParse(t, joined(d, g.words))
}

// rewritten counts what there was to be met.
type rewritten struct {
	calm, promoted, marked, both, many, aborts int
	// How many edges a promotion that is not taken would take and add.
	takesNone, takesOne, takesMore int
}

func (s *rewritten) note(mends []impl.Mend) {
	promotes := slices.ContainsFunc(mends, func(m impl.Mend) bool { return m.Kind == impl.MdPromote })
	marks := slices.ContainsFunc(mends, func(m impl.Mend) bool { return m.Kind == impl.MdMark })
	count(&s.calm, len(mends) == 0)
	count(&s.promoted, promotes)
	count(&s.marked, marks)
	count(&s.both, promotes && marks)
	count(&s.many, len(mends) > 3)
}

// keepPromise9 asks what is promised of what Rewrite answers, under either policy.
func keepPromise9(t *testing.T, d *dice, p, q impl.Set, aborts *int) {
	t.Helper()
	if l := impl.Dangers(q); len(l) != 0 || len(plainMendingOf(q).dangers()) != 0 || !impl.TargetOk(q) || !plainTargetOk(q) || !wholeTree(q) {
		t.Fatalf("%s\nmended\n%s\nhas dangers %v, or may not be run", impl.SetText(p), impl.SetText(q), l)
	}
	for k := range p.Procs {
		if impl.Stmts(q, k) > 4*impl.Stmts(p, k)+1 || q.Procs[k].Name != p.Procs[k].Name || !slices.Equal(q.Procs[k].Params, p.Procs[k].Params) {
			t.Fatalf("%s\nmended\n%s\nis too long, or another one", impl.SetText(p), impl.SetText(q))
		}
	}
	wantSameAlone(t, d, p, q, aborts)
}

// wantRewrites rewrites under both policies.
func wantRewrites(t *testing.T, d *dice, p impl.Set, s *rewritten) {
	t.Helper()
	want, mends := plainMendingOf(p).rewrite(s)
	got, l, ok := impl.Rewrite(p, impl.PoTargeted)
	wantPlainMend(t, "Rewrite", p, got, ok, want, true)
	if !slices.Equal(l, mends) {
		t.Fatalf("%s\nis mended by %v, not %v", impl.SetText(p), l, mends)
	}
	if calm := len(impl.Dangers(p)) == 0; calm != (len(l) == 0) || calm && !plainSet(got, p) {
		t.Fatalf("%s\nwith dangers %v is mended by %v", impl.SetText(p), impl.Dangers(p), l)
	}
	keepPromise9(t, d, p, got, &s.aborts)
	s.note(l)
	want, fine := plainMendingOf(p).markAll()
	got, l, ok = impl.Rewrite(p, impl.PoGlobal)
	wantPlainMend(t, "Rewrite", p, got, ok, want, fine)
	if len(l) != 1 || l[0] != (impl.Mend{Kind: impl.MdAll}) || len(impl.VulnList(got)) != 0 {
		t.Fatalf("%s\nis mended by %v, and vulnerable: %v", impl.SetText(p), l, impl.VulnList(got))
	}
	keepPromise9(t, d, p, got, &s.aborts)
}

// Promise 9: what is mended has no danger and may be run; where there was no danger nothing is changed; alone, what is mended does what was written, but for the table of conflicts; it is no more than four times as long and one statement.
func TestPromise9(t *testing.T) {
	d := dice(909)
	var s rewritten
	for range 600 {
		wantRewrites(t, &d, drawWritten(t, &d), &s)
		wantRewrites(t, &d, drawCrowded(t, &d), &s)
	}
	if s.calm < 250 || s.promoted < 500 || s.marked < 100 || s.both < 60 || s.many < 50 || s.aborts < 40 || s.takesNone < 8 || s.takesOne < 100 || s.takesMore < 60 {
		t.Errorf("too few of a kind: %+v", s)
	}
}

// Spoilt sets are answered as the plain reading has it, or by the fixed answers.
func TestPromise9OfSpoiltOnes(t *testing.T) {
	d := dice(9909)
	var s rewritten
	refused, mended, unwritten, rewrote := 0, 0, 0, 0
	for range 700 {
		p := spoilSet(&d, drawGuarded(t, &d))
		if plainTargetOk(p) {
			wantPlainMends(t, &d, p)
			mended++
		} else {
			wantNoMend(t, "a spoilt one", p)
			refused++
		}
		p = spoilSet(&d, drawCrowded(t, &d))
		if plainSourceOk(p) {
			wantRewrites(t, &d, p, &s)
			rewrote++
		} else {
			wantNoRewrite(t, "a spoilt one", p)
			unwritten++
		}
		if t.Failed() {
			t.Fatalf("%v", p)
		}
	}
	if refused < 200 || mended < 200 || unwritten < 200 || rewrote < 100 {
		t.Error("too few of a kind:", refused, mended, unwritten, rewrote)
	}
}
