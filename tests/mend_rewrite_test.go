package tests

import (
	"slices"
	"strconv"
	"strings"
	"testing"

	"loop.example/g00689/impl"
)

// mendsText tells mends by their letters and numbers: P01 is the promotion of 0 towards 1.
func mendsText(l []impl.Mend) string {
	var texts []string
	for _, m := range l {
		letter := map[int]string{impl.MdPromote: "P", impl.MdMark: "M", impl.MdAll: "A"}[m.Kind]
		texts = append(texts, letter+strconv.Itoa(m.A)+strconv.Itoa(m.B))
	}
	return strings.Join(texts, " ")
}

// wantRewritten rewrites under PoTargeted. In the texts that are wanted, ! is a mark that is put.
func wantRewritten(t *testing.T, src []string, mends string, want ...string) impl.Set {
	t.Helper()
	got, l, ok := impl.Rewrite(mustParse(t, strings.Join(src, "\n")), impl.PoTargeted)
	for i := range want {
		want[i] = strings.ReplaceAll(want[i], "!", markText)
	}
	wantMended(t, strings.Join(src, " "), got, ok, want...)
	if mendsText(l) != mends {
		t.Errorf("%s: mends %q, not %q", strings.Join(src, " "), mendsText(l), mends)
	}
	if d := impl.Dangers(got); len(d) != 0 {
		t.Errorf("%s: dangers are left: %v", impl.SetText(got), d)
	}
	return got
}

func TestRewriteByOnePromotion(t *testing.T) {
	wantRewritten(t, []string{"proc p() { x = read A[0]; write A[0] = x; }"}, "P00", "proc p() { $0 = 0; x = read A[$0]; write A[$0] = x; write A[0] = x; }")
	wantRewritten(t, []string{"proc p(a) { x = read A[a]; write A[a] = x + 1; }"}, "P00", "proc p(a) { $0 = a; x = read A[$0]; write A[$0] = x; write A[a] = (x + 1); }")
	wantRewritten(t, []string{"proc p() { x = read A[0]; write B[0] = x; }", "proc q() { y = read B[0]; write A[0] = y; }"}, "P01",
		"proc p() { $0 = 0; x = read A[$0]; write A[$0] = x; write B[0] = x; }", "proc q() { y = read B[0]; write A[0] = y; }")
	// The first of Dangers, though others are there.
	wantRewritten(t, []string{"proc o() { }", "proc p() { x = read A[0]; write B[0] = x; }", "proc q() { y = read B[0]; write A[0] = y; }"}, "P12",
		"proc o() { }", "proc p() { $0 = 0; x = read A[$0]; write A[$0] = x; write B[0] = x; }", "proc q() { y = read B[0]; write A[0] = y; }")
	// Two edges in a row, and the way back by dependencies, which go both ways.
	wantRewritten(t, []string{"proc p() { x = read A[0]; return x; }", "proc q() { x = read B[0]; write A[0] = x; }", "proc r() { write B[0] = 1; }"}, "P01",
		"proc p() { $0 = 0; x = read A[$0]; write A[$0] = x; return x; }", "proc q() { x = read B[0]; write A[0] = x; }", "proc r() { write B[0] = 1; }")
}

func TestRewriteOfACircleOfThree(t *testing.T) {
	wantRewritten(t, []string{"proc p() { x = read A[0]; write B[0] = x; }", "proc q() { x = read B[0]; write C[0] = x; }", "proc r() { x = read C[0]; write A[0] = x; }"}, "P02 P21",
		"proc p() { $0 = 0; x = read A[$0]; write A[$0] = x; write B[0] = x; }", "proc q() { x = read B[0]; write C[0] = x; }", "proc r() { $0 = 0; x = read C[$0]; write C[$0] = x; write A[0] = x; }")
}

// Where there are no Dangers nothing is changed, whatever is vulnerable.
func TestRewriteOfWhatIsInNoDanger(t *testing.T) {
	for _, x := range []struct {
		vulns string
		src   []string
	}{
		{"", []string{"proc p() { }"}},
		{"", []string{"proc p(a, b) { return a / b; }", "proc q() { abort; }"}},
		{"", []string{"proc p() { x = read A[0]; write A[1] = x; }"}},
		{"", []string{"proc p(a) { x = read A[a]; write A[a] = x; }", "proc q(a) { y = read A[a]; write A[a] = y; }"}},
		{"010", []string{"proc p() { x = read A[0]; write B[0] = x; }", "proc q() { write A[0] = 1; }"}},
		{"010 020", []string{"proc p(a) { x = read A[a]; if (x) { write B[0] = x; } }", "proc q() { write A[0] = 1; }", "proc r() { for i in 4 { write A[i] = i; } }"}},
		{"200 210", []string{"proc p() { write A[0] = 1; }", "proc q() { write B[0] = 2; }", "proc r() { x = read A[0]; y = read B[0]; return x + y; }"}},
	} {
		p := mustParse(t, strings.Join(x.src, "\n"))
		got, l, ok := impl.Rewrite(p, impl.PoTargeted)
		if !ok || len(l) != 0 || !plainSet(got, p) || dangersText(impl.VulnList(p)) != x.vulns {
			t.Errorf("%s becomes %s by %v", impl.SetText(p), impl.SetText(got), l)
		}
	}
}

// A promotion that takes no edge of VulnList away, that takes one and adds one, or that takes two and adds one, is none; a mark is put instead.
func TestRewriteByMarks(t *testing.T) {
	// The key of what is written back is not known any more, and meets the other read.
	wantRewritten(t, []string{"proc p() { v = 1; x = read A[v]; write A[1] = x + 1; y = read A[2]; return y; }"}, "M00",
		"proc p() { v = 1; x = read A[v]; ! write A[1] = (x + 1); ! y = read A[2]; return y; }")
	wantRewritten(t, []string{"proc p() { x = read A[0]; write B[0] = x; }", "proc q() { y = read B[0]; write A[0] = y; }", "proc r() { z = read A[0]; return z; }"}, "M01 M21",
		"proc p() { x = read A[0]; ! write B[0] = x; }", "proc q() { y = read B[0]; write A[0] = y; ! }", "proc r() { z = read A[0]; ! return z; }")
	wantRewritten(t, []string{"proc p() { x = read A[0]; write B[0] = x; }", "proc q() { y = read B[0]; write A[0] = y; }", "proc r() { write A[0] = 1; }", "proc s() { z = read A[0]; return z; }"}, "M01 P10",
		"proc p() { x = read A[0]; ! write B[0] = x; }", "proc q() { $0 = 0; y = read B[$0]; write B[$0] = y; write A[0] = y; ! }", "proc r() { write A[0] = 1; }", "proc s() { z = read A[0]; return z; }")
}

// What Promote gives in these cases, so that it is known why it is not taken.
func TestRewriteTakesNoSuchPromotion(t *testing.T) {
	for _, x := range []struct{ src, ahead, behind string }{
		{"proc p() { v = 1; x = read A[v]; write A[1] = x + 1; y = read A[2]; return y; }", "000", "000"},
		{"proc p() { x = read A[0]; write B[0] = x; } proc q() { y = read B[0]; write A[0] = y; } proc r() { z = read A[0]; return z; }", "010 100 210", "100 200 210"},
		{"proc p() { x = read A[0]; write B[0] = x; } proc q() { y = read B[0]; write A[0] = y; } proc r() { write A[0] = 1; } proc s() { z = read A[0]; return z; }", "010 020 100 310 320", "100 300 310 320"},
	} {
		p := mustParse(t, x.src)
		d := impl.Dangers(p)[0]
		promoted, ok := impl.Promote(p, d.A, d.B)
		marked, fine := impl.Mark(p, d.A, d.B)
		if !ok || !fine || dangersText(impl.VulnList(p)) != x.ahead || dangersText(impl.VulnList(promoted)) != x.behind {
			t.Errorf("%s: %v, promoted %v", x.src, impl.VulnList(p), impl.VulnList(promoted))
		}
		if !slices.ContainsFunc(impl.VulnList(p), func(v impl.Danger) bool { return v.A == d.A && v.B == d.B }) || slices.ContainsFunc(impl.VulnList(marked), func(v impl.Danger) bool { return v.A == d.A && v.B == d.B }) {
			t.Errorf("%s: the mark leaves %v", x.src, impl.VulnList(marked))
		}
	}
}

// One mend after the other, with the first of Dangers anew each time.
func TestRewriteBySeveralMends(t *testing.T) {
	wantRewritten(t, []string{
		"proc p() { x = read A[0]; write B[0] = x; }", "proc q() { y = read B[0]; write A[0] = y; }",
		"proc r(a) { if (a) { x = read C[a]; write D[a] = x; } }", "proc s(a) { for i in 2 { y = read D[i]; write C[i] = y; } }",
	}, "P01 P23",
		"proc p() { $0 = 0; x = read A[$0]; write A[$0] = x; write B[0] = x; }", "proc q() { y = read B[0]; write A[0] = y; }",
		"proc r(a) { if (a) { $0 = a; x = read C[$0]; write C[$0] = x; write D[a] = x; } }", "proc s(a) { for i in 2 { y = read D[i]; write C[i] = y; } }")
	// One procedure towards two others: its fresh names go on.
	wantRewritten(t, []string{"proc p() { x = read A[0]; y = read B[0]; write C[0] = x + y; }", "proc q() { x = read C[0]; write A[0] = x; }", "proc r() { x = read C[0]; write B[0] = x; }"}, "P01 P02",
		"proc p() { $0 = 0; x = read A[$0]; write A[$0] = x; $1 = 0; y = read B[$1]; write B[$1] = y; write C[0] = (x + y); }", "proc q() { x = read C[0]; write A[0] = x; }", "proc r() { x = read C[0]; write B[0] = x; }")
	// All read what all write.
	src := "(a) { x = read A[a]; write A[0] = x + 1; }"
	mended := "(a) { $0 = a; x = read A[$0]; write A[$0] = x; write A[0] = (x + 1); }"
	for n := 1; n <= impl.MaxProcs; n++ {
		var all, want, mends []string
		for k := range n {
			all, want, mends = append(all, "proc p"+strconv.Itoa(k)+src), append(want, "proc p"+strconv.Itoa(k)+mended), append(mends, "P"+strings.Repeat(strconv.Itoa(k), 2))
		}
		wantRewritten(t, all, strings.Join(mends, " "), want...)
	}
}

// mostMended has a procedure p1 of these statements, whose reads of A[v] are marked first and promoted then, so that each becomes four statements.
func mostMended(stmts string) string {
	return "proc p0(v) { x = read A[0]; x = read B[0]; write C[v] = 1; }\nproc p1(v) { " + stmts + " }\n" +
		"proc p2(v) { write A[v] = 1; write B[v] = 1; x = read B[v]; }\nproc p3(v) { x = read B[v]; write A[1] = 1; write B[0] = 1; }"
}

func TestRewriteOfTheMostMends(t *testing.T) {
	for _, n := range []int{1, 2, 10, impl.MaxStmts} {
		var reads []string
		for i := range n {
			name := "$" + strconv.Itoa(i)
			reads = append(reads, name+" = v; x = read A["+name+"]; write A["+name+"] = x; !")
		}
		got := wantRewritten(t, []string{mostMended(strings.TrimSpace(strings.Repeat("x = read A[v]; ", n)))}, "M02 M03 M12 P13 M22 M33",
			"proc p0(v) { x = read A[0]; ! x = read B[0]; ! write C[v] = 1; }", "proc p1(v) { "+strings.Join(reads, " ")+" }",
			"proc p2(v) { write A[v] = 1; ! write B[v] = 1; ! x = read B[v]; ! }", "proc p3(v) { x = read B[v]; ! write A[1] = 1; write B[0] = 1; ! }")
		if impl.Stmts(got, 1) != 4*n {
			t.Errorf("%d reads become %d statements", n, impl.Stmts(got, 1))
		}
	}
}

// The most that may be written is mended, too.
func TestRewriteOfTheMostThatMayBeWritten(t *testing.T) {
	read, wide := "x = read A[v];", "x = read A[v"+strings.Repeat(" + v", 15)+"];"
	steps := nestedLoops(strings.Repeat(read, 7), 4, 4, 4) + strings.Repeat(read, 14)
	for what, x := range map[string]struct {
		stmts               string
		steps, count, nodes int
	}{
		"statements": {strings.Repeat(read, impl.MaxStmts), 1 + impl.MaxStmts, impl.MaxStmts, 0},
		"steps":      {steps, 589, impl.MaxStmts, 0},
		"nodes":      {strings.Repeat(wide, impl.MaxStmts), 1 + impl.MaxStmts, impl.MaxStmts, 795},
		"texts":      {strings.Repeat("abcdefghijklmnopqrst = read A[abcdefghijklmnopqrst * abcdefghijklmnopqrst * abcdefghijklmnopqrst * abcdefghijklmnopqrst * abcdefghijklmnopqrst * abcdefghijklmnopqrst * abcdefghijklmnopqrst];", impl.MaxStmts), 1 + impl.MaxStmts, impl.MaxStmts, 0},
	} {
		p := mustParse(t, mostMended(x.stmts))
		if !impl.SourceOk(p) || impl.StepBound(p, 1) != x.steps || impl.Stmts(p, 1) != x.count || len(p.L) < x.nodes {
			t.Errorf("%s: SourceOk %v, %d steps, %d statements, %d nodes", what, impl.SourceOk(p), impl.StepBound(p, 1), impl.Stmts(p, 1), len(p.L))
		}
		for _, policy := range []int{impl.PoTargeted, impl.PoGlobal} {
			got, l, ok := impl.Rewrite(p, policy)
			if !ok || len(l) == 0 || !impl.TargetOk(got) || len(impl.Dangers(got)) != 0 || impl.StepBound(got, 1) > 4*x.steps+1 {
				t.Errorf("%s under %d: %v, %v, %d steps", what, policy, ok, l, impl.StepBound(got, 1))
			}
		}
	}
}

func TestRewriteOfAll(t *testing.T) {
	for _, src := range [][]string{
		{"proc p() { }"},
		{"proc p() { x = read A[0]; write B[0] = x; }", "proc q() { y = read B[0]; write A[0] = y; }"},
		{"proc p(a) { write A[a] = a; }", "proc q() { }", "proc r() { if (1) { x = read A[0]; } }", "proc s(a, b) { for i in 2 { return a; } }"},
	} {
		p := mustParse(t, strings.Join(src, "\n"))
		got, l, ok := impl.Rewrite(p, impl.PoGlobal)
		var want []string
		for _, s := range src {
			want = append(want, strings.Replace(s, "{ ", "{ write #[0] = 1; ", 1))
		}
		wantMended(t, src[0], got, ok, want...)
		if len(l) != 1 || l[0] != (impl.Mend{Kind: impl.MdAll}) || len(impl.VulnList(got)) != 0 || len(impl.Dangers(got)) != 0 {
			t.Errorf("%s: mends %v", impl.SetText(got), l)
		}
		for k := range p.Procs {
			if impl.Stmts(got, k) != impl.Stmts(p, k)+1 {
				t.Errorf("%s has %d statements", impl.SetText(got), impl.Stmts(got, k))
			}
		}
	}
}
