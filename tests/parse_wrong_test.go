package tests

import (
	"strings"
	"testing"

	"loop.example/g00689/impl"
)

func wantAllStuck(t *testing.T, marked ...string) {
	t.Helper()
	for _, s := range marked {
		wantStuckAt(t, s)
	}
}

// wantStmtsStuck has the marked texts stand in a procedure, one behind other statements and one in an inner block, too.
func wantStmtsStuck(t *testing.T, marked ...string) {
	t.Helper()
	for _, s := range marked {
		wantStuckAt(t, "proc p() { "+s+" }")
		wantStuckAt(t, "proc p() { } proc q(a) { abort; y = 1; "+s+" } proc r() { }")
		wantStuckAt(t, "proc p() { for i in 3 { if (1) { } else {\n\t"+s+" } } }")
	}
}

func TestParseWhereLexRefuses(t *testing.T) {
	wantAllStuck(t, "@#", "x @#", "proc p() { x = @# }", "proc p() { } @_", "} } } @E", "proc p() { x = @1234567890; }", "proc @abcdefghijklmnopqrstu() { }", "; @\xff", "proc p() { write @#[1] = 1; }")
	wantStuck(t, strings.Repeat(" ", impl.MaxSrc+1), 0)
	wantStuck(t, "proc p() { x"+strings.Repeat(" ", impl.MaxSrc), 0)
	wantSet(t, strings.Repeat(" ", impl.MaxSrc), impl.Set{})
	// Its place counts, also where the words ahead of it go wrong, or are too many or too deep.
	wantStuckAt(t, "proc p() { "+strings.Repeat("abort;", impl.MaxNodes)+" } @#")
	wantStuckAt(t, "proc p() { x = "+strings.Repeat("(", 50)+" @!")
}

func TestParseWhereWordsLack(t *testing.T) {
	whole := "proc p(a, b) { x = 1; y = read A[x]; write B[y] = -(2 < x); if (x) { } else { abort; } for i in 3 { } return a == b; }"
	words, _ := impl.Lex(whole)
	for _, w := range words[1:] {
		wantStuck(t, whole[:w.At], w.At)
		wantStuck(t, whole[:w.At]+" \n", w.At+2)
	}
	wantSet(t, whole[:words[0].At], impl.Set{})
	wantAllStuck(t, "proc@", "proc @", "proc p@", "proc p(@", "proc p(a@", "proc p(a,@", "proc p()@", "proc p() {@", "proc p() { }\nproc \t@",
		"proc p() { if (1) { }@", "proc p() { if (1) { } else@", "proc p() { x = 1 +@", "proc p() { x = 1 <@", "proc p() { x = -@", "proc p() { x = (@", "proc p() { x = (1 @")
}

func TestParseWrongWordsInSets(t *testing.T) {
	for _, w := range []string{"x", "7", "A", "read", "write", "if", "else", "for", "in", "abort", "return", "{", "}", "(", ")", "[", "]", ";", ",", "=", "==", "<", "+", "-", "*", "/", "%"} {
		wantAllStuck(t, "@"+w, " \n@"+w+" proc", "proc p() { } @"+w, "proc p() { }proc q() { abort; }@"+w)
	}
}

func TestParseWrongWordsInProcedures(t *testing.T) {
	wantAllStuck(t,
		"proc @() { }", "proc @1() { }", "proc @A() { }", "proc @{ }", "proc @==",
		"proc p @{ }", "proc p @q() { }", "proc p @) { }", "proc p @[a] { }", "proc p @= 1", "proc p @a) { }",
		"proc p(@, a) { }", "proc p(@1) { }", "proc p(@A) { }", "proc p(@( { }", "proc p(@{ }", "proc p(@-a) { }",
		"proc p(a @b) { }", "proc p(a @; b) { }", "proc p(a @= b) { }", "proc p(a @{ }", "proc p(a @( b) { }", "proc p(a @1) { }",
		"proc p(a, @) { }", "proc p(a, @, b) { }", "proc p(a, @1) { }", "proc p(a, b, @B) { }", "proc p(a, @{ }",
		"proc p() @x", "proc p() @; { }", "proc p() @( ) { }", "proc p() @[ ]", "proc p() @proc q() { }", "proc p() @} {", "proc p(a) @abort;", "proc p() @)",
		"proc p() { } @{ }", "proc p() { } @;", "proc p() { } @}", "proc p() { @proc q() { } }")
	for _, w := range lexWords {
		wantAllStuck(t, "proc @"+w+"() { }", "proc p(@"+w+") { }", "proc p(a, @"+w+") { }", "proc p(a @"+w+") { }", "proc p() @"+w+" { }")
	}
}

func TestParseWrongWordsInBlocks(t *testing.T) {
	for _, w := range []string{"7", "A", "proc", "read", "else", "in", "{", "(", ")", "[", "]", ";", ",", "=", "==", "<", "+", "-", "*", "/", "%"} {
		wantStmtsStuck(t, "@"+w, "abort; @"+w, "if (1) { } for i in 2 { } @"+w+" x = 1;")
	}
}

func TestParseWrongWordsInAssignments(t *testing.T) {
	wantStmtsStuck(t,
		"x @;", "x @1;", "x @== 1;", "x @y = 1;", "x @[1] = 2;", "x @(1);", "x @< 1;", "x @read A[1];", "x @}", "x @- 1;", "x @, y = 1;",
		"x = @;", "x = @= 1;", "x = @== 1;", "x = @A;", "x = @A[1];", "x = @);", "x = @}", "x = @{ }", "x = @+ 1;", "x = @* 1;", "x = @< 1;", "x = @[1];", "x = @, 1;",
		"x = 1 @}", "x = 1 @2;", "x = 1 @y;", "x = 1 @, y = 2;", "x = 1 @= 2;", "x = 1 @);", "x = 1 @];", "x = 1 @(2);", "x = 1 @A;", "x = 1 @{ }", "x = y @[1];", "x = y @(1);", "x = 1 @abort;", "x = y @read A[1];",
		"x = read @;", "x = read @x[1];", "x = read @1[1];", "x = read @[1];", "x = read @read A[1];", "x = read @(A)[1];", "x = read @- A[1];",
		"x = read A @;", "x = read A @1];", "x = read A @(1);", "x = read A @A[1];", "x = read A @= 1;", "x = read A @{1}",
		"x = read A[@];", "x = read A[@;", "x = read A[@read A[1]];", "x = read A[@B[1]];", "x = read A[@* 1];", "x = read A[@[1]];",
		"x = read A[1 @;", "x = read A[1 @2];", "x = read A[1 @);", "x = read A[1 @, 2];", "x = read A[1 @= 2];", "x = read A[1 @}",
		"x = read A[1] @}", "x = read A[1] @+ 1;", "x = read A[1] @= 1;", "x = read A[1] @[2];", "x = read A[1] @< 2;", "x = read A[1] @y;", "x = read A[1] @];",
		"x = 1 + @read A[1];", "x = (@read A[1]);", "x = -@read A[1];")
	for _, w := range lexWords {
		wantStmtsStuck(t, "x @"+w+" 1;", "x = 1 @"+w+";", "x = read @"+w+"[1];", "x = read A @"+w+";", "x = read A[@"+w+"];")
		if w != "read" {
			wantStmtsStuck(t, "x = @"+w+";", "x = @"+w+" A[1];")
		}
	}
}

func TestParseWrongWordsInWrites(t *testing.T) {
	wantStmtsStuck(t,
		"write @;", "write @x[1] = 2;", "write @1[1] = 2;", "write @[1] = 2;", "write @(A)[1] = 2;", "write @write A[1] = 2;", "write @read A[1];",
		"write A @= 2;", "write A @1] = 2;", "write A @(1) = 2;", "write A @B[1] = 2;", "write A @;",
		"write A[@] = 2;", "write A[@= 2;", "write A[@A] = 2;", "write A[@/ 2] = 2;", "write A[@;",
		"write A[1 @= 2;", "write A[1 @2] = 2;", "write A[1 @) = 2;", "write A[1 @, 2] = 2;", "write A[x @y] = 2;",
		"write A[1] @;", "write A[1] @2;", "write A[1] @== 2;", "write A[1] @+ 2;", "write A[1] @[2] = 3;", "write A[1] @< 3;",
		"write A[1] = @;", "write A[1] = @= 2;", "write A[1] = @read B[1];", "write A[1] = @B[1];", "write A[1] = @}", "write A[1] = @% 2;",
		"write A[1] = 2 @}", "write A[1] = 2 @3;", "write A[1] = 2 @= 3;", "write A[1] = 2 @);", "write A[1] = 2 @, 3;", "write A[1] = x @[3];")
	for _, w := range lexWords {
		wantStmtsStuck(t, "write @"+w+"[1] = 2;", "write A @"+w+";", "write A[@"+w+"] = 2;", "write A[1 @"+w+"] = 2;", "write A[1] @"+w+" 2;", "write A[1] = @"+w+";", "write A[1] = 2 @"+w+";")
	}
}

func TestParseWrongWordsInChoicesAndLoops(t *testing.T) {
	wantStmtsStuck(t,
		"if @x { }", "if @{ }", "if @1 { }", "if @) { }", "if @[1] { }", "if @- (1) { }", "if @;",
		"if (@) { }", "if (@{ }", "if (@;", "if (@A) { }", "if (@== 1) { }", "if (x @= 1) { }",
		"if (x @{ }", "if (x @;", "if (x @y) { }", "if (x @] { }", "if (x @, y) { }", "if (x @}",
		"if (x) @;", "if (x) @abort;", "if (x) @x = 1;", "if (x) @} { }", "if (x) @( ) { }", "if (x) @else { }", "if (x) @) { }", "if (x) @+ 1 { }", "if (x) @1",
		"if (x) { } @;", "if (x) { } @{ }", "if (x) { abort; } @== { }", "if (x) { } @( { }", "if (x) { } @1;", "if (x) { @else { } }",
		"if (x) { } else @;", "if (x) { } else @if (y) { }", "if (x) { } else @abort;", "if (x) { } else @else { }", "if (x) { } else @x = 1;", "if (x) { } else @} {", "if (x) { } else @(1) { }",
		"if (x) { } else { } @else { }", "if (x) { } else { } @;", "if (x) { } else { } @{ }",
		"for @in 3 { }", "for @1 in 3 { }", "for @A in 3 { }", "for @(i in 3) { }", "for @{ }", "for @;", "for @- i in 3 { }",
		"for i @3 { }", "for i @= 3 { }", "for i @{ }", "for i @; in 3 { }", "for i @j in 3 { }", "for i @, j in 3 { }", "for i @A in 3 { }", "for i @< 3 { }",
		"for i in @n { }", "for i in @{ }", "for i in @-3 { }", "for i in @(3) { }", "for i in @A { }", "for i in @;", "for i in @in 3 { }",
		"for i in 3 @;", "for i in 3 @abort;", "for i in 3 @+ 1 { }", "for i in 3 @4 { }", "for i in 3 @} {", "for i in 3 @(1) { }", "for i in 3 @x = 1;", "for i in 3 @) { }",
		"for i in 3 { } @else { }", "for i in 3 { } @;", "for i in 3 { } @{ }")
	for _, w := range lexWords {
		wantStmtsStuck(t, "if @"+w+" (1) { }", "if (@"+w+") { }", "if (x @"+w+") { }", "if (x) @"+w+" { }", "if (x) { } else @"+w+" { }", "for @"+w+" in 3 { }", "for i in @"+w+" { }", "for i in 3 @"+w+" { }")
		if w != "in" {
			wantStmtsStuck(t, "for i @"+w+" 3 { }")
		}
	}
}

func TestParseWrongWordsInAbortsAndReturns(t *testing.T) {
	wantStmtsStuck(t,
		"abort @}", "abort @1;", "abort @x;", "abort @();", "abort @abort;", "abort @,", "abort @= 1;", "abort @{ }",
		"return @;", "return @}", "return @A;", "return @read A[1];", "return @= 1;", "return @);", "return @, 1;", "return @/ 1;", "return @return 1;", "return @{ }",
		"return 1 @}", "return 1 @2;", "return x @= 1;", "return x @y;", "return (x) @(y);", "return 1 @, 2;", "return 1 @);", "return 1 @];", "return x @A;", "return x @return y;")
	for _, w := range lexWords {
		wantStmtsStuck(t, "abort @"+w+";", "return @"+w+";", "return x @"+w+";")
	}
}

func TestParseWrongWordsInExpressions(t *testing.T) {
	wrong := []string{"}", ")", "]", ";", ",", "=", "==", "<", "+", "*", "/", "%", "{", "[", "A"}
	for _, ahead := range []string{"", "x + ", "x - ", "x * ", "x / ", "x % ", "x < ", "x == ", "-", "- -", "(", "((x) + ", "-(", "x * (y - "} {
		for _, w := range append(wrong, lexWords...) {
			if ahead == "" && w == "read" {
				continue
			}
			wantStmtsStuck(t, "y = "+ahead+"@"+w+" 1;")
		}
	}
	for _, w := range append([]string{"}", "]", ";", ",", "=", "{", "[", "(", "A", "z", "7"}, lexWords...) {
		wantStmtsStuck(t, "y = (x @"+w+" 1);", "y = ((1 + x) @"+w, "y = (-x * 2 < 3 @"+w+" 1;")
	}
	for _, w := range append([]string{"}", ")", "]", ",", "=", "{", "[", "(", "A", "z", "7"}, lexWords...) {
		wantStmtsStuck(t, "y = (x) @"+w+" 1;", "y = x + 1 @"+w, "y = 2 * -x == 3 @"+w+" 1;")
	}
}

func TestParseSecondComparison(t *testing.T) {
	for _, first := range []string{"<", "=="} {
		for _, second := range []string{"<", "=="} {
			wantStmtsStuck(t, "x = a "+first+" b @"+second+" c;", "x = (a "+first+" b @"+second+" c);", "x = a + 1 "+first+" -b * 2 @"+second+" c;",
				"if (a "+first+" b @"+second+" c) { }", "return a "+first+" (b "+second+" c) @"+first+" d;", "write A[a "+first+" b @"+second+" c] = 1;",
				"x = read A[a "+first+" b @"+second+" c];", "write A[1] = a "+first+" b @"+second+" c;")
		}
	}
}

// The examples that stand in the given test of this stage, and their like, by number.
func TestParsePlacesByNumber(t *testing.T) {
	for _, x := range []struct {
		s string
		k int
	}{{"proc", 4}, {"proc p( { }", 8}, {"proc p() { x = 1 }", 17}, {"proc p() { read A[1]; }", 11}, {"proc p() { x = a < b < c; }", 21}, {"x", 0}, {"proc p() { for i in n { } }", 20}, {"proc p() { x = (1; }", 17},
		{"proc p() {", 10}, {"proc p() { ", 11}, {"proc for() { }", 5}, {"proc p() { in = 1; }", 11}, {"proc p() { x == 1; }", 13}, {"\n\nproc p(a a)", 11}} {
		wantStuck(t, x.s, x.k)
	}
}
