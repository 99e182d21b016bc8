package tests

import (
	"strings"
	"testing"

	"loop.example/g00689/impl"
)

// inBlocks has stmts stand in so many blocks within one another.
func inBlocks(n int, stmts string) string {
	return "proc p() {" + strings.Repeat("for i in 1 {", n-1) + stmts + strings.Repeat("}", n)
}

func TestParseDeepBlocks(t *testing.T) {
	most := impl.MaxDeep
	wantParsed(t, inBlocks(most, ""), 2*most-1)
	wantParsed(t, inBlocks(most, "abort; abort;"), 2*most+1)
	wantStuckAt(t, inBlocks(most, "for i in 1 @{ }"))
	wantStuckAt(t, inBlocks(most, "abort; for i in 1 @{ abort; }"))
	wantStuckAt(t, inBlocks(most, "for i in 1 @"+strings.Repeat("{", 500)))
	wantParsed(t, inBlocks(most-1, "for i in 1 { } for j in 2 { abort; } for k in 3 { }"), 2*most-3+7)
	wantStuckAt(t, inBlocks(most-1, "for i in 1 { for j in 2 @{ } }"))
	wantParsed(t, inBlocks(most-1, "if (1) { } else { }"), 2*most-3+4)
	wantStuckAt(t, inBlocks(most-1, "if (1) { if (@1) { } }"))
	wantStuckAt(t, inBlocks(most-1, "if (1) { } else { if (@1) { } }"))
}

func TestParseDeepElse(t *testing.T) {
	nested := func(n int, inner string) string {
		return "proc p() {" + strings.Repeat("if(1){}else{", n-1) + inner + strings.Repeat("}", n)
	}
	most := impl.MaxDeep
	wantParsed(t, nested(most, ""), 4*most-3)
	wantStuckAt(t, nested(most-1, "if(1){}else{if(@1){}}"))
	wantStuckAt(t, nested(most-1, "if(1){for i in 2 @{}}else{}"))
}

// An expression is one more within its block, whatever the statement is.
func TestParseDeepExpressionsInBlocks(t *testing.T) {
	most := impl.MaxDeep
	for _, x := range []struct {
		ahead, behind string
		nodes         int
	}{
		{"x = ", "1;", 2}, {"x = ", "y;", 2}, {"x = read A[", "1];", 2}, {"return ", "1;", 2}, {"write A[", "1] = 2;", 3}, {"if (", "1) { }", 3},
	} {
		wantParsed(t, inBlocks(most-1, x.ahead+x.behind), 2*most-3+x.nodes)
		wantStuckAt(t, inBlocks(most, x.ahead+"@"+x.behind))
		wantStuckAt(t, inBlocks(most, x.ahead+"@("+x.behind))
		wantStuckAt(t, inBlocks(most, x.ahead+"@-"+x.behind))
		wantStuckAt(t, inBlocks(most-1, x.ahead+"(@"+x.behind))
		wantStuckAt(t, inBlocks(most-1, x.ahead+"-@"+x.behind))
		wantStuckAt(t, inBlocks(most, x.ahead+"@;"))
		wantStuck(t, strings.TrimRight(inBlocks(most, x.ahead), "}"), len(strings.TrimRight(inBlocks(most, x.ahead), "}")))
	}
	wantStuckAt(t, inBlocks(most, "abort; write A[@1] = 2;"))
}

func TestParseDeepBrackets(t *testing.T) {
	for _, blocks := range []int{1, 2, 17} {
		most := impl.MaxDeep - blocks - 1
		open, shut := strings.Repeat("(", most), strings.Repeat(")", most)
		wantParsed(t, inBlocks(blocks, "x = "+open+"1"+shut+";"), 2*blocks+1)
		wantParsed(t, inBlocks(blocks, "x = "+open+"1 + 2 * 3 < 4"+shut+" - 5;"), 2*blocks+9)
		wantStuckAt(t, inBlocks(blocks, "x = "+open+"(@1)"+shut+";"))
		wantStuckAt(t, inBlocks(blocks, "x = "+open+"(@(1))"+shut+";"))
		wantStuckAt(t, inBlocks(blocks, "x = "+open+"1 + (@y)"+shut+";"))
		wantStuckAt(t, inBlocks(blocks, "x = "+open+"1 < (@-y)"+shut+";"))
		wantStuckAt(t, inBlocks(blocks, "x = "+open+"(@)"+shut+";"))
		wantStuckAt(t, inBlocks(blocks, "x = 1 == 2 * "+open+"(@1)"+shut+";"))
		wantStuckAt(t, inBlocks(blocks, "x = "+open+"(@"+strings.Repeat("(", 300)))
	}
}

func TestParseDeepSigns(t *testing.T) {
	for _, blocks := range []int{1, 2, 17} {
		most := impl.MaxDeep - blocks - 1
		signs := strings.Repeat("-", most)
		wantParsed(t, inBlocks(blocks, "x = "+signs+"1;"), 2*blocks+1+most)
		wantParsed(t, inBlocks(blocks, "x = "+signs+"1 - "+signs+"y;"), 2*blocks+3+2*most)
		wantStuckAt(t, inBlocks(blocks, "x = "+signs+"-@1;"))
		wantStuckAt(t, inBlocks(blocks, "x = "+signs+"-@- 1;"))
		wantStuckAt(t, inBlocks(blocks, "x = "+signs+"-@(1);"))
		wantStuckAt(t, inBlocks(blocks, "x = "+signs+"1 --"+signs+"@y;"))
		wantStuckAt(t, inBlocks(blocks, "x = "+signs+"-@;"))
		wantStuckAt(t, inBlocks(blocks, "x = "+signs+"-@"+strings.Repeat("-", 300)+"1;"))
	}
}

func TestParseDeepMixtures(t *testing.T) {
	pairs := (impl.MaxDeep - 2) / 2
	shut := strings.Repeat(")", pairs)
	wantParsed(t, inBlocks(1, "x = "+strings.Repeat("-(", pairs)+"1"+shut+";"), 3+pairs)
	wantStuckAt(t, inBlocks(1, "x = "+strings.Repeat("-(", pairs)+"-@1"+shut+";"))
	wantStuckAt(t, inBlocks(1, "x = "+strings.Repeat("-(", pairs)+"(@1)"+shut+";"))
	wantStuckAt(t, inBlocks(1, "x = "+strings.Repeat("-(", pairs)+"-@(1)"+shut+";"))
	wantParsed(t, inBlocks(1, "x = "+strings.Repeat("(-", pairs)+"1"+shut+";"), 3+pairs)
	wantStuckAt(t, inBlocks(1, "x = "+strings.Repeat("(-", pairs)+"(@-1)"+shut+";"))
	wantStuckAt(t, inBlocks(1, "x = "+strings.Repeat("(-", pairs)+"-@1"+shut+";"))

	deep := func(blocks, brackets, signs int, inner string) string {
		return inBlocks(blocks, "return "+strings.Repeat("(", brackets)+strings.Repeat("-", signs)+inner+strings.Repeat(")", brackets)+";")
	}
	for blocks := 1; blocks < impl.MaxDeep; blocks++ {
		left := impl.MaxDeep - blocks - 1
		for signs := range left + 1 {
			wantParsed(t, deep(blocks, left-signs, signs, "1"), 2*blocks+1+signs)
			wantStuckAt(t, deep(blocks, left-signs, signs, "-@1"))
			wantStuckAt(t, deep(blocks, left-signs, signs, "(@1)"))
		}
	}
}

// What has ended is not under way any more.
func TestParseSideBySideIsNotDeep(t *testing.T) {
	many := 60
	wantParsed(t, inBlocks(1, strings.Repeat("for i in 1 { }", many)), 2*many+1)
	wantParsed(t, inBlocks(1, strings.Repeat("if (1) { } else { }", many)), 4*many+1)
	wantParsed(t, inBlocks(1, "x = 1"+strings.Repeat(" + (1)", many)+";"), 2*many+3)
	wantParsed(t, inBlocks(1, "x = 1"+strings.Repeat(" * -1", many)+";"), 3*many+3)
	wantParsed(t, inBlocks(1, strings.Repeat("x = (-(1));", many)), 3*many+1)
	wantParsed(t, strings.Repeat("proc p() { x = -(1); }", many), 4*many)
	wantParsed(t, inBlocks(1, "x = 1"+strings.Repeat(" - 1", 300)+";"), 603)
	wantParsed(t, inBlocks(1, "x = 1"+strings.Repeat(" / 1", 300)+";"), 603)
	deep := strings.Repeat("(", impl.MaxDeep-2) + "1" + strings.Repeat(")", impl.MaxDeep-2)
	wantParsed(t, inBlocks(1, "x = "+deep+" < "+deep+"; y = "+deep+";"), 7)
	signs := strings.Repeat("-", impl.MaxDeep-2) + "1"
	wantParsed(t, inBlocks(1, "x = "+signs+" < "+signs+"; y = "+signs+";"), 7+3*(impl.MaxDeep-2))
	wantParsed(t, inBlocks(impl.MaxDeep, "")+inBlocks(impl.MaxDeep, ""), 4*impl.MaxDeep-2)
}

func TestParseMostNodes(t *testing.T) {
	aborts := func(n int) string { return strings.Repeat("abort;", n) }
	terms := func(n int) string { return strings.Repeat("+1", n) }
	for _, behind := range []string{"", " ", "\n\n"} {
		for _, x := range []struct{ full, over string }{
			{"proc p(){" + aborts(impl.MaxNodes-1) + "}", "proc p(){" + aborts(impl.MaxNodes) + "}"},
			{"proc p(){x=-1" + terms(398) + ";}", "proc p(){x=--1" + terms(398) + ";}"},
			{"proc p(){abort;}proc q(){x=1" + terms(397) + ";}proc r(){}", "proc p(){abort;}proc q(){x=-1" + terms(397) + ";}proc r(){}"},
			{"proc p(){" + aborts(impl.MaxNodes-2) + "}proc q(){}", "proc p(){" + aborts(impl.MaxNodes-2) + "}proc q(){}proc r(){}"},
			{"proc p(){" + aborts(impl.MaxNodes-3) + "for i in 1{}}", "proc p(){" + aborts(impl.MaxNodes-3) + "if(1){}}"},
		} {
			wantParsed(t, x.full+behind, impl.MaxNodes)
			wantStuck(t, x.over+behind, len(x.over+behind))
		}
		far := "proc p(){x=1" + terms(2900) + ";}" + behind
		wantStuck(t, far, len(far))
	}
}

// A wrong word is named ahead of too many nodes; where words lack, the place is the same.
func TestParseTooManyNodesAndWrongWords(t *testing.T) {
	many := strings.Repeat("abort;", impl.MaxNodes)
	wantStuckAt(t, "proc p(){"+many+"} @x")
	wantStuckAt(t, "proc p(){"+many+"@;}")
	wantStuckAt(t, "proc p(){ @; "+many+"}")
	wantStuckAt(t, "proc p(){"+many+"x = 1 @}")
	wantStuckAt(t, "proc p(){"+many+"@")
	wantStuckAt(t, "proc p(){"+many+"x = 1 + @")
	wantStuckAt(t, "proc p(){"+many+"x = "+strings.Repeat("(", impl.MaxDeep-1)+"@1")
}
