package tests

import (
	"slices"
	"testing"

	"loop.example/g00689/impl"
)

// plainKnown is the value of a known expression.
func plainKnown(p impl.Set, k int) (int, bool) {
	x := p.L[k]
	if x.Kind == impl.NkNum {
		return x.N, true
	}
	if x.Kind == impl.NkNeg && p.L[x.Kids[0]].Kind == impl.NkNum {
		return 0 - p.L[x.Kids[0]].N, true
	}
	return 0, false
}

// plainKey goes forward through what stands ahead, and keeps what is known on the way.
func plainKey(p impl.Set, key int, ahead []int) (int, bool) {
	if p.L[key].Kind != impl.NkVar {
		return plainKnown(p, key)
	}
	known := map[string]int{}
	for _, k := range ahead {
		x := p.L[k]
		switch x.Kind {
		case impl.NkIf, impl.NkFor:
			clear(known)
		case impl.NkRead:
			delete(known, x.S)
		case impl.NkSet:
			delete(known, x.S)
			if val, ok := plainKnown(p, x.Kids[0]); ok {
				known[x.S] = val
			}
		}
	}
	val, ok := known[p.L[key].S]
	return val, ok
}

func plainMark(p impl.Set, k int) (int, bool) {
	x := p.L[k]
	if x.Kind != impl.NkWrite || x.N != 4 {
		return 0, false
	}
	row, ok := plainKnown(p, x.Kids[0])
	_, also := plainKnown(p, x.Kids[1])
	return row, ok && also
}

func plainReturn(p impl.Set, read, k int) bool {
	x, y := p.L[read], p.L[k]
	if x.Kind != impl.NkRead || y.Kind != impl.NkWrite || x.N != y.N {
		return false
	}
	v, v2, x2 := p.L[x.Kids[0]], p.L[y.Kids[0]], p.L[y.Kids[1]]
	return v.Kind == impl.NkVar && v2.Kind == impl.NkVar && x2.Kind == impl.NkVar && v.S == v2.S && x.S == x2.S && x.S != v.S
}

// rootOf is the node that no node owns, above k.
func rootOf(p impl.Set, k int) int {
	for owner := ownerOf(p, k); owner >= 0; owner = ownerOf(p, k) {
		k = owner
	}
	return k
}

func plainAccess(p impl.Set, body, k int) impl.Access {
	x := p.L[k]
	kids := p.L[ownerOf(p, k)].Kids
	at := slices.Index(kids, k)
	a := impl.Access{Node: k, Write: x.Kind == impl.NkWrite, T: x.N}
	a.R, a.Const = plainKey(p, x.Kids[0], kids[:at])
	for _, behind := range kids[at+1:] {
		row, ok := plainMark(p, behind)
		if ok {
			a.Rows = append(a.Rows, row)
		} else if plainReturn(p, k, behind) {
			a.Same = true
		} else {
			break
		}
	}
	for _, first := range p.L[body].Kids {
		row, ok := plainMark(p, first)
		if !ok {
			break
		}
		a.Rows = append(a.Rows, row)
	}
	slices.Sort(a.Rows)
	a.Rows = slices.Compact(a.Rows)
	return a
}

// plainAccesses asks each node of the set whether it is an access, and whose.
func plainAccesses(p impl.Set, k int) []impl.Access {
	var l []impl.Access
	for n, x := range p.L {
		if (x.Kind == impl.NkRead || x.Kind == impl.NkWrite) && rootOf(p, n) == p.Procs[k].Body {
			l = append(l, plainAccess(p, p.Procs[k].Body, n))
		}
	}
	return l
}

// plainEdges has Rw, Dep and Vuln for each two procedures, by going through all pairs of accesses.
type plainEdges map[[2]int][3]bool

func plainEdgesOf(all [][]impl.Access) plainEdges {
	edges := plainEdges{}
	for a := range all {
		for b := range all {
			var e [3]bool
			for _, x := range all[a] {
				for _, y := range all[b] {
					meet := plainOverlap(x, y)
					e[0] = e[0] || meet && !x.Write && y.Write
					e[1] = e[1] || meet && (x.Write || y.Write)
					e[2] = e[2] || meet && !x.Write && y.Write && !plainCovered(x, y)
				}
			}
			edges[[2]int{a, b}] = e
		}
	}
	return edges
}

// reaches goes on from a by any row in which none stands twice.
func (e plainEdges) reaches(a, b int, gone ...int) bool {
	if a == b {
		return true
	}
	for c := range impl.MaxProcs {
		if e[[2]int{a, c}][1] && !slices.Contains(gone, c) && e.reaches(c, b, append(slices.Clone(gone), a)...) {
			return true
		}
	}
	return false
}

func (e plainEdges) dangers(n int) []impl.Danger {
	var l []impl.Danger
	for i := range n * n * n {
		a, b, c := i/n/n, i/n%n, i%n
		if e[[2]int{a, b}][2] && e[[2]int{b, c}][2] && e.reaches(c, a) {
			l = append(l, impl.Danger{A: a, B: b, C: c})
		}
	}
	return l
}

func (e plainEdges) vulnerable(n int) []impl.Danger {
	var l []impl.Danger
	for i := range n * n {
		if e[[2]int{i / n, i % n}][2] {
			l = append(l, impl.Danger{A: i / n, B: i % n})
		}
	}
	return l
}

// graphTold is what is told of a set: for each two procedures Rw, Dep, Vuln and Reaches.
type graphTold map[[2]int][4]bool

func tellGraph(p impl.Set) graphTold {
	told := graphTold{}
	for a := range p.Procs {
		for b := range p.Procs {
			told[[2]int{a, b}] = [4]bool{impl.Rw(p, a, b), impl.Dep(p, a, b), impl.Vuln(p, a, b), impl.Reaches(p, a, b)}
		}
	}
	return told
}

// wantPlainGraph holds all that is told of a set that may be run against the plain readings.
func wantPlainGraph(t *testing.T, p impl.Set) ([][]impl.Access, plainEdges) {
	t.Helper()
	n := len(p.Procs)
	var all [][]impl.Access
	for k := range n {
		all = append(all, plainAccesses(p, k))
		if got := impl.Accesses(p, k); !slices.EqualFunc(got, all[k], sameAccess) {
			t.Fatalf("%s\nprocedure %d has %v, not %v", impl.SetText(p), k, got, all[k])
		}
	}
	edges, told := plainEdgesOf(all), tellGraph(p)
	for pair, got := range told {
		e := edges[pair]
		if got != [4]bool{e[0], e[1], e[2], edges.reaches(pair[0], pair[1])} {
			t.Fatalf("%s\nedges from %d to %d: %v", impl.SetText(p), pair[0], pair[1], got)
		}
	}
	if got := impl.Dangers(p); !slices.Equal(got, edges.dangers(n)) {
		t.Fatalf("%s\ndangers %v, not %v", impl.SetText(p), got, edges.dangers(n))
	}
	if got := impl.VulnList(p); !slices.Equal(got, edges.vulnerable(n)) {
		t.Fatalf("%s\nvulnerable %v, not %v", impl.SetText(p), got, edges.vulnerable(n))
	}
	told.keepPromise8(t, p)
	return all, edges
}

// keepPromise8 asks the edges themselves: vulnerable ones are such by which one reads what another writes; dependencies go both ways; what is reached from what is reached is reached.
func (g graphTold) keepPromise8(t *testing.T, p impl.Set) {
	t.Helper()
	for pair, e := range g {
		a, b := pair[0], pair[1]
		rw, dep, vuln, reaches := e[0], e[1], e[2], e[3]
		if vuln && !rw || rw && !dep || dep != g[[2]int{b, a}][1] || dep && !reaches || a == b && !reaches {
			t.Fatalf("%s\nfrom %d to %d: %v", impl.SetText(p), a, b, e)
		}
		for c := range p.Procs {
			if reaches && g[[2]int{b, c}][3] && !g[[2]int{a, c}][3] {
				t.Fatalf("%s\nfrom %d over %d to %d", impl.SetText(p), a, b, c)
			}
		}
	}
}

// few draws one of few names, so that they are met again.
func (g *drawSrc) few() string {
	return g.one("v", "w", "x")
}

func (g *drawSrc) maybeKnown() {
	g.put(g.one("0", "1", "2", "-1", "-0", "--1", "v", "w", "1 + 0"))
}

func (g *drawSrc) mark() {
	g.put("write", "D", "[")
	if g.d.below(6) == 0 {
		g.maybeKnown()
		g.put("]", "=")
		g.maybeKnown()
	} else {
		g.put(g.one("0", "1", "2", "-1"), "]", "=", g.one("1", "-5"))
	}
	g.put(";")
}

// guardedRead draws a read with what might be its guards.
func (g *drawSrc) guardedRead(tables []string) {
	table, key, x := g.one(tables...), g.one("v", "w", "x", "v", "w", "0", "1", "-1", "2", "1 + v"), g.few()
	g.put(x, "=", "read", table, "[", key, "]", ";")
	for range g.d.below(3) {
		g.mark()
	}
	switch g.d.below(6) {
	case 0, 1:
		g.put("write", table, "[", key, "]", "=", x, ";")
	case 2:
		g.put("write", g.one(tables...), "[", g.one(key, "v", "w"), "]", "=", g.one(x, "v", "w"), ";")
	}
	for range g.d.below(2) {
		g.mark()
	}
}

func (g *drawSrc) guarded(size int, tables []string) {
	switch k := g.d.below(20); {
	case k < 2 && size > 0:
		g.put("if", "(", g.few(), ")")
		g.guardeds(size-1, tables)
		if k == 0 {
			g.put("else")
			g.guardeds(size-1, tables)
		}
	case k < 4 && size > 0:
		g.put("for", g.few(), "in", g.one("1", "2", "3"))
		g.guardeds(size-1, tables)
	case k < 8:
		g.guardedRead(tables)
	case k < 11:
		g.put("write", g.one(tables...), "[", g.one("v", "w", "0", "1", "-1", "2", "1 + v"), "]", "=", g.one("v", "x", "1"), ";")
	case k < 13:
		g.mark()
	case k < 19:
		g.put(g.few(), "=")
		g.maybeKnown()
		g.put(";")
	case k == 19 && g.d.below(4) == 0:
		g.put(g.one("abort", "return 1"), ";")
	}
}

func (g *drawSrc) guardeds(size int, tables []string) {
	g.put("{")
	for range g.d.below(3) * g.d.below(2) {
		g.mark()
	}
	for range g.d.below(6) {
		g.guarded(size, tables)
	}
	g.put("}")
}

// inAnyOrder has the nodes of p in another order, each behind its kids.
func inAnyOrder(d *dice, p impl.Set) impl.Set {
	out := impl.Set{}
	at := make([]int, len(p.L))
	var left []int
	for k := range p.L {
		at[k], left = -1, append(left, k)
	}
	for len(left) > 0 {
		i := d.below(len(left))
		x := p.L[left[i]]
		if slices.ContainsFunc(x.Kids, func(kid int) bool { return at[kid] < 0 }) {
			continue
		}
		x.Kids = slices.Clone(x.Kids)
		for j, kid := range x.Kids {
			x.Kids[j] = at[kid]
		}
		at[left[i]] = len(out.L)
		out.L = append(out.L, x)
		left = slices.Delete(left, i, i+1)
	}
	for _, proc := range p.Procs {
		out.Procs = append(out.Procs, impl.Proc{Name: proc.Name, Params: slices.Clone(proc.Params), Body: at[proc.Body]})
	}
	return out
}

// drawGuarded draws a set that may be run, with guards of all kinds, and with more tables or fewer.
func drawGuarded(t *testing.T, d *dice) impl.Set {
	t.Helper()
	for {
		g := &drawSrc{d: d}
		tables := []string{"A", "B", "C", "D"}[:1+d.below(4)]
		for range 1 + d.below(impl.MaxProcs) {
			g.put("proc", g.name(), "(", g.few(), ")")
			g.guardeds(2, tables[:1+d.below(len(tables))])
		}
		p, at := impl.Parse(joined(d, g.words))
		if at != -1 {
			continue
		}
		for i, x := range p.L {
			if x.Kind == impl.NkWrite && x.N == 3 {
				p.L[i].N = 4
			}
			if x.Kind == impl.NkNum && d.below(12) == 0 {
				p.L[i].N = drawEdge(d)
			}
		}
		if !impl.TargetOk(p) {
			continue
		}
		if d.below(2) == 0 {
			p = inAnyOrder(d, p)
		}
		return p
	}
}

// seen counts what there was to be met, so that nothing is met too rarely.
type seen struct {
	keyed, unkeyed, same, rows, covered, vulns, dangers, calm, far int
}

func count(n *int, met bool) {
	if met {
		*n++
	}
}

func (s *seen) note(all [][]impl.Access, e plainEdges) {
	n := len(all)
	for _, l := range all {
		for _, x := range l {
			count(&s.keyed, x.Const)
			count(&s.unkeyed, !x.Const)
			count(&s.same, x.Same)
			count(&s.rows, len(x.Rows) > 1)
		}
	}
	for i := range n * n {
		edge := e[[2]int{i / n, i % n}]
		count(&s.covered, edge[0] && !edge[2])
		count(&s.far, i/n != i%n && !edge[1] && e.reaches(i/n, i%n))
	}
	count(&s.vulns, len(e.vulnerable(n)) > 0)
	count(&s.dangers, len(e.dangers(n)) > 0)
	count(&s.calm, len(e.vulnerable(n)) > 0 && len(e.dangers(n)) == 0)
}

// Promise 8: accesses, edges and dangers are what chapter 8 says.
func TestPromise8(t *testing.T) {
	d := dice(8)
	var s seen
	for range 1500 {
		p := drawGuarded(t, &d)
		s.note(wantPlainGraph(t, p))
		p = drawRunnable(t, &d)
		s.note(wantPlainGraph(t, p))
	}
	if s.keyed < 1000 || s.unkeyed < 1000 || s.same < 300 || s.rows < 1000 || s.covered < 200 || s.vulns < 1000 || s.dangers < 800 || s.calm < 100 || s.far < 200 {
		t.Errorf("too few of a kind: %+v", s)
	}
}

// Spoilt sets are answered as the plain reading has it, or by the fixed answers.
func TestPromise8OfSpoiltOnes(t *testing.T) {
	d := dice(808)
	refused, told := 0, 0
	for range 4000 {
		p := spoilSet(&d, drawGuarded(t, &d))
		if !plainTargetOk(p) {
			wantNoGraph(t, "a spoilt one", p)
			refused++
		} else {
			wantPlainGraph(t, p)
			told++
		}
		if t.Failed() {
			t.Fatalf("%v", p)
		}
	}
	if refused < 1000 || told < 1000 {
		t.Error("too few of a kind:", refused, told)
	}
}

// touched are the keys that a run alone has read and written, by the nodes at which it did.
type touched struct {
	read, written map[impl.Key]int
}

// touchedBy runs procedure k step by step, and holds each key against what was foreseen of its node.
func touchedBy(t *testing.T, p impl.Set, k int, args []int, rows []impl.Row) touched {
	t.Helper()
	foreseen := map[int]impl.Access{}
	for _, x := range impl.Accesses(p, k) {
		foreseen[x.Node] = x
	}
	all := touched{read: map[impl.Key]int{}, written: map[impl.Key]int{}}
	c := mustStart(t, serial{p: p, k: k, args: args})
	steps, _ := walkFrom(p, c, rows)
	for _, s := range steps {
		if s.act.Kind != impl.AcRead && s.act.Kind != impl.AcWrite {
			continue
		}
		last := s.after.Stack[len(s.after.Stack)-1]
		node := p.L[last.At].Kids[last.I-1]
		x, ok := foreseen[node]
		if !ok || x.T != s.act.K.T || x.Const && x.R != s.act.K.R || x.Write != (s.act.Kind == impl.AcWrite) {
			t.Fatalf("%s\nnode %d does %s, and has %s", impl.SetText(p), node, actText(s.act), accessText(x))
		}
		if x.Write {
			all.written[s.act.K] = node
		} else {
			all.read[s.act.K] = node
		}
	}
	return all
}

func meet(a, b map[impl.Key]int) bool {
	for key := range a {
		if _, ok := b[key]; ok {
			return true
		}
	}
	return false
}

// What runs do to each other's rows was foreseen: keys that are known are those that are met, and who meets has an edge.
func TestPromise8OfRuns(t *testing.T) {
	d := dice(88)
	reads, writes, apart := 0, 0, 0
	for range 1500 {
		p := drawGuarded(t, &d)
		var all []touched
		for k, proc := range p.Procs {
			all = append(all, touchedBy(t, p, k, drawArgs(&d, len(proc.Params)), drawState(&d)))
		}
		for a := range all {
			for b := range all {
				if meet(all[a].read, all[b].written) {
					reads++
					if !impl.Rw(p, a, b) || !impl.Dep(p, a, b) || !impl.Dep(p, b, a) {
						t.Fatalf("%s\n%d reads what %d writes", impl.SetText(p), a, b)
					}
				}
				if meet(all[a].written, all[b].written) {
					writes++
					if !impl.Dep(p, a, b) || !impl.Reaches(p, a, b) {
						t.Fatalf("%s\n%d writes what %d writes", impl.SetText(p), a, b)
					}
				}
				if !impl.Dep(p, a, b) {
					apart++
				}
			}
		}
	}
	if reads < 500 || writes < 500 || apart < 500 {
		t.Error("too few of a kind:", reads, writes, apart)
	}
}
