package tests

import (
	"math"
	"strconv"
	"strings"
	"testing"

	"loop.example/g00689/impl"
)

// serial is a procedure that is run alone, with what it is run on.
type serial struct {
	p     impl.Set
	k     int
	args  []int
	state []impl.Row
}

// abcSet is the set of a procedure with the Params a, b and c and these statements.
func abcSet(t *testing.T, stmts string) impl.Set {
	t.Helper()
	return mustParse(t, "proc p(a, b, c) { "+stmts+" }")
}

// alone has these statements run with 7, -2 and 0 as a, b and c.
func alone(t *testing.T, stmts string, state ...impl.Row) serial {
	t.Helper()
	return serial{p: abcSet(t, stmts), args: []int{7, -2, 0}, state: state}
}

func (s serial) with(args ...int) serial {
	s.args = args
	return s
}

func (s serial) ends(t *testing.T, want impl.Outcome, rows []impl.Row) {
	t.Helper()
	end, l := impl.RunSerial(s.p, s.k, s.args, s.state)
	if end != want || !sameRows(l, rows) {
		t.Errorf("%.300s with %v on %.200v: %v and %.200v, not %v and %.200v", impl.SetText(s.p), s.args, s.state, end, l, want, rows)
	}
}

func (s serial) returns(t *testing.T, val int, rows ...impl.Row) {
	t.Helper()
	s.ends(t, impl.Outcome{Kind: impl.OcReturn, Val: val}, rows)
}

// aborts asks for the rows as they were.
func (s serial) aborts(t *testing.T) {
	t.Helper()
	s.ends(t, impl.Outcome{Kind: impl.OcAbort}, s.state)
}

func (s serial) isRefused(t *testing.T) {
	t.Helper()
	s.ends(t, impl.Outcome{}, nil)
}

func TestSerialEnds(t *testing.T) {
	rows := []impl.Row{row(0, 1, 5), row(4, 2, 6)}
	for _, state := range [][]impl.Row{nil, {}, rows} {
		alone(t, "", state...).returns(t, 0, state...)
		alone(t, "return 5;", state...).returns(t, 5, state...)
		alone(t, "return 0;", state...).returns(t, 0, state...)
		alone(t, "return -a;", state...).returns(t, -7, state...)
		alone(t, "abort;", state...).aborts(t)
		alone(t, "x = 3;", state...).returns(t, 0, state...)
		alone(t, "if (a) { } else { }", state...).returns(t, 0, state...)
		alone(t, "for i in 4 { }", state...).returns(t, 0, state...)
	}
}

func TestSerialPutsVariables(t *testing.T) {
	for stmts, want := range map[string]int{
		"return a;": 7, "return b;": -2, "return c;": 0, "return q;": 0, "return q + r * s;": 0,
		"x = 3; return x;": 3, "x = 3; x = 4; return x;": 4, "x = 3; x = x + x; return x;": 6, "x = 3; y = x; x = 5; return y * 10 + x;": 35,
		"a = 9; return a;": 9, "a = b; b = a; return a - b;": 0, "x = x + 1; x = x + 1; return x;": 2, "x = a; x = 0; return x;": 0,
		"x = a / 2; y = x % 2; return x * 10 + y;": 31,
		"x = (a < 8) + (a == 7) * 2; return x;":    3,
		"a = a - 7; return a == c;":                1,
	} {
		alone(t, stmts).returns(t, want)
	}
}

// What is put into a variable is no row, and rows of each table are their own.
func TestSerialReads(t *testing.T) {
	state := []impl.Row{row(0, 7, 70), row(0, 8, 80), row(1, 7, -71), row(2, 7, math.MinInt), row(3, -7, 73), row(4, 7, 74)}
	for stmts, want := range map[string]int{
		"x = read A[7]; return x;": 70, "x = read A[8]; return x;": 80, "x = read B[7]; return x;": -71, "x = read C[7]; return x;": math.MinInt,
		"x = read D[7]; return x;": 0, "x = read D[-7]; return x;": 73, "x = read A[9]; return x;": 0, "x = read A[0]; return x;": 0,
		"x = read A[a]; return x;": 70, "x = read A[a + 1]; return x;": 80, "x = read A[q]; return x;": 0, "x = read A[6 - b]; return x;": 80,
		"x = 5; x = read A[9]; return x;": 0, "a = read A[a]; return a;": 70, "x = read A[7]; x = read B[7]; return x;": -71,
		"x = read A[7]; y = read A[8]; return y - x;": 10, "x = read A[x]; return x;": 0, "x = 7; x = read A[x]; return x;": 70, "x = read A[7]; return y;": 0,
	} {
		alone(t, stmts, state...).returns(t, want, state...)
		alone(t, stmts+"abort;", state...).returns(t, want, state...)
	}
	for _, r := range []int{math.MinInt, math.MaxInt} {
		s := serial{p: mustParse(t, "proc p(a) { x = read D[a]; write D[a] = x + 1; return x; }"), args: []int{r}, state: []impl.Row{row(3, r, 4)}}
		s.returns(t, 4, row(3, r, 5))
	}
}

func TestSerialWrites(t *testing.T) {
	state := []impl.Row{row(0, 1, 10), row(1, 1, 11), row(3, -1, 12)}
	alone(t, "write A[2] = 5;", state...).returns(t, 0, row(0, 1, 10), row(0, 2, 5), row(1, 1, 11), row(3, -1, 12))
	alone(t, "write A[1] = 5;", state...).returns(t, 0, row(0, 1, 5), row(1, 1, 11), row(3, -1, 12))
	alone(t, "write B[0] = a;", state...).returns(t, 0, row(0, 1, 10), row(1, 0, 7), row(1, 1, 11), row(3, -1, 12))
	alone(t, "write C[b] = b;", state...).returns(t, 0, row(0, 1, 10), row(1, 1, 11), row(2, -2, -2), row(3, -1, 12))
	alone(t, "write D[-1] = -1;", state...).returns(t, 0, row(0, 1, 10), row(1, 1, 11), row(3, -1, -1))
	alone(t, "write D[a * 2] = a + a;", state...).returns(t, 0, row(0, 1, 10), row(1, 1, 11), row(3, -1, 12), row(3, 14, 14))
	alone(t, "write A[1] = 10;", state...).returns(t, 0, state...)
	alone(t, "write D[3] = 1; write C[3] = 2; write C[1] = 3; write B[9] = 4; write A[5] = 5;").returns(t, 0, row(0, 5, 5), row(1, 9, 4), row(2, 1, 3), row(2, 3, 2), row(3, 3, 1))
	alone(t, "write A[1] = 1; write A[1] = 2; write A[1] = 3;", state...).returns(t, 0, row(0, 1, 3), row(1, 1, 11), row(3, -1, 12))
	// The key is no value, and the value no key.
	alone(t, "write A[a] = b;").returns(t, 0, row(0, 7, -2))
	alone(t, "write A[b] = a;").returns(t, 0, row(0, -2, 7))
	// What is written is no variable.
	alone(t, "write A[1] = 5; return x;").returns(t, 0, row(0, 1, 5))
}

func TestSerialValue0TakesARowAway(t *testing.T) {
	state := []impl.Row{row(0, 1, 10), row(0, 2, 20), row(1, 1, 11)}
	alone(t, "write A[1] = 0;", state...).returns(t, 0, row(0, 2, 20), row(1, 1, 11))
	alone(t, "write A[2] = c;", state...).returns(t, 0, row(0, 1, 10), row(1, 1, 11))
	alone(t, "write A[1] = a - 7; write A[2] = q; write B[1] = 1 < 0;", state...).returns(t, 0)
	alone(t, "write A[3] = 0;", state...).returns(t, 0, state...)
	alone(t, "write A[3] = 4; write A[3] = 0;", state...).returns(t, 0, state...)
	alone(t, "write A[1] = 0; write A[1] = 6;", state...).returns(t, 0, row(0, 1, 6), row(0, 2, 20), row(1, 1, 11))
	alone(t, "write A[1] = 0; x = read A[1]; return x + 1;", state...).returns(t, 1, row(0, 2, 20), row(1, 1, 11))
	alone(t, "write A[1] = 0; abort;", state...).aborts(t)
}

func TestSerialReadsWritesAndReadsAgain(t *testing.T) {
	state := []impl.Row{row(0, 1, 10), row(1, 1, 11)}
	alone(t, "x = read A[1]; write A[1] = x + 5; y = read A[1]; return x * 100 + y;", state...).returns(t, 1015, row(0, 1, 15), row(1, 1, 11))
	alone(t, "write A[2] = 3; x = read A[2]; write A[2] = x + x; x = read A[2]; return x;", state...).returns(t, 6, row(0, 1, 10), row(0, 2, 6), row(1, 1, 11))
	alone(t, "write A[1] = 3; x = read B[1]; y = read A[2]; return x + y;", state...).returns(t, 11, row(0, 1, 3), row(1, 1, 11))
	// What was read stays what it was.
	alone(t, "x = read A[1]; write A[1] = 99; return x;", state...).returns(t, 10, row(0, 1, 99), row(1, 1, 11))
	// A row names another one.
	alone(t, "x = read A[1]; write A[x] = 1; y = read A[10]; return y;", state...).returns(t, 1, row(0, 1, 10), row(0, 10, 1), row(1, 1, 11))
}

func TestSerialChooses(t *testing.T) {
	for cond, holds := range map[string]bool{"1": true, "0": false, "a": true, "b": true, "c": false, "q": false, "-1": true, "a < 8": true, "a < 7": false, "a == 7": true, "a - 7": false, "c == 0": true} {
		want, first, second := 1, 1, 0
		if !holds {
			want, first, second = 2, 0, 2
		}
		alone(t, "if ("+cond+") { return 1; } else { return 2; }").returns(t, want)
		alone(t, "if ("+cond+") { x = 1; } else { x = 2; } return x;").returns(t, want)
		alone(t, "if ("+cond+") { } else { x = 2; } return x;").returns(t, second)
		alone(t, "if ("+cond+") { x = 1; } return x;").returns(t, first)
		alone(t, "if ("+cond+") { x = 1; } else { } return x;").returns(t, first)
		alone(t, "if ("+cond+") { write A[1] = 1; } else { write B[1] = 1; } return 9;").returns(t, 9, row(want-1, 1, 1))
	}
	s := alone(t, "if (a < 10) { if (b < 0) { x = 1; } else { x = 2; } } else { if (b < 0) { x = 3; } else { x = 4; } } return x;")
	s.with(9, -1, 0).returns(t, 1)
	s.with(9, 0, 0).returns(t, 2)
	s.with(10, -1, 0).returns(t, 3)
	s.with(10, 0, 0).returns(t, 4)
	// The first kid is reckoned once, ahead of the block.
	alone(t, "x = 1; if (x) { x = 0; y = 5; } else { y = 6; } return y;").returns(t, 5)
	alone(t, "if (x) { y = 6; } else { x = 1; y = 5; } return y;").returns(t, 5)
	alone(t, "if (1) { x = 1; x = x + 1; } x = x * 10; return x;").returns(t, 20)
}

func TestSerialRounds(t *testing.T) {
	for n := 1; n <= impl.MaxTimes; n++ {
		times := strconv.Itoa(n)
		alone(t, "for i in "+times+" { x = x + 1; } return x;").returns(t, n)
		alone(t, "for i in "+times+" { x = x * 10 + i + 1; } return x;").returns(t, []int{0, 1, 12, 123, 1234}[n])
		alone(t, "for i in "+times+" { } return i;").returns(t, n-1)
		alone(t, "i = 50; for i in "+times+" { x = x + i; } return x;").returns(t, n*(n-1)/2)
		// What the block puts into the variable changes neither the number of rounds nor that of the next one.
		alone(t, "for i in "+times+" { i = i * 100; x = x + 1; } return x * 1000 + i;").returns(t, n*1000+(n-1)*100)
		alone(t, "for i in "+times+" { i = 0 - 9; x = x + 1; } return x;").returns(t, n)
		alone(t, "for i in "+times+" { y = read A[i]; write A[i] = y + i + 1; }", row(0, 0, 10)).returns(t, 0, []impl.Row{row(0, 0, 11), row(0, 1, 2), row(0, 2, 3), row(0, 3, 4)}[:n]...)
	}
	// Rounds of one that is a Param.
	alone(t, "for a in 3 { x = x + a; } return x * 10 + a;").returns(t, 32)
	// Statements of a round, in order.
	alone(t, "x = 1; for i in 3 { y = x; x = x + y; x = x + 1; } return x;").returns(t, 15)
	alone(t, "for i in 4 { if (i == 2) { x = x + 100; } else { x = x + i; } } return x;").returns(t, 104)
	// A read into the variable of the rounds.
	alone(t, "for i in 3 { i = read A[i]; x = x * 10 + i; } return x;", row(0, 0, 3), row(0, 1, 2), row(0, 2, 1)).returns(t, 321, row(0, 0, 3), row(0, 1, 2), row(0, 2, 1))
}

func TestSerialRoundsInRounds(t *testing.T) {
	alone(t, "for i in 3 { for j in 4 { x = x + 1; } } return x;").returns(t, 12)
	alone(t, "for i in 3 { for j in 2 { x = x * 10 + i * 2 + j; } } return x;").returns(t, 12345)
	alone(t, "for i in 2 { for j in 3 { x = x + j; } x = x * 10; } return x * 10 + j;").returns(t, 3302)
	alone(t, "for i in 2 { for j in 2 { for k in 2 { x = x * 10 + i * 4 + j * 2 + k; } } } return x;").returns(t, 1234567)
	alone(t, "for i in 2 { for j in 2 { write A[i * 2 + j] = i * 10 + j + 1; } }").returns(t, 0, row(0, 0, 1), row(0, 1, 2), row(0, 2, 11), row(0, 3, 12))
	// One name for both: the inner rounds put it, the outer ones count on.
	alone(t, "for i in 3 { for i in 2 { x = x + 1; } y = y * 10 + i; } return x * 1000 + y;").returns(t, 6111)
	alone(t, "for i in 3 { x = x * 10 + i; for i in 4 { } } return x * 10 + i;").returns(t, 123)
}

func TestSerialReturnsWithinBlocks(t *testing.T) {
	behind := " write B[1] = 1; x = 1 / 0; abort;"
	alone(t, "return 4;"+behind).returns(t, 4)
	alone(t, "return 0;"+behind).returns(t, 0)
	alone(t, "write A[1] = 2; return 4;"+behind).returns(t, 4, row(0, 1, 2))
	alone(t, "if (1) { return 4;"+behind+" }"+behind).returns(t, 4)
	alone(t, "if (0) { abort; } else { return 4;"+behind+" }"+behind).returns(t, 4)
	alone(t, "for i in 4 { return i + 4;"+behind+" }"+behind).returns(t, 4)
	alone(t, "for i in 4 { write A[i] = i + 1; if (i == 2) { return i + 4;"+behind+" } y = 3; }"+behind).returns(t, 6, row(0, 0, 1), row(0, 1, 2), row(0, 2, 3))
	alone(t, "for i in 3 { for j in 4 { if (j == 1) { if (i == 1) { for k in 2 { return i * 100 + j * 10 + k;"+behind+" }"+behind+" } } write A[i] = j + 1; }"+" }"+behind).returns(t, 110, row(0, 0, 4), row(0, 1, 1))
	// A value 0 that is returned ends all, too.
	alone(t, "for i in 4 { for j in 4 { x = x + 1; write A[1] = x; return 0; } }"+behind).returns(t, 0, row(0, 1, 1))
	alone(t, "if (1) { if (1) { return c; } }"+behind).returns(t, 0)
}

func TestSerialAbortsWithinBlocks(t *testing.T) {
	state := []impl.Row{row(0, 1, 10), row(4, 1, 11)}
	for _, stmts := range []string{
		"abort;", "abort; return 1;", "write A[1] = 5; abort;", "write A[1] = 0; write B[1] = 2; abort; return 3;", "write A[1] = 5; write A[1] = 10; abort;",
		"if (1) { abort; } return 1;", "if (0) { return 1; } else { abort; } return 1;", "if (1) { if (1) { abort; } return 1; } return 1;",
		"for i in 4 { abort; } return 1;", "for i in 4 { write A[i] = 9; if (i == 3) { abort; } } return 1;", "for i in 4 { for j in 4 { if (i * j == 9) { abort; } write C[i] = j; } write D[i] = 1; } return 1;",
		"for i in 2 { write A[i] = 7; } for i in 2 { if (i) { for j in 1 { abort; return 2; } return 3; } } return 1;",
	} {
		alone(t, stmts, state...).aborts(t)
		alone(t, stmts).aborts(t)
	}
}

func TestSerialOfADivisor0(t *testing.T) {
	state := []impl.Row{row(0, 1, 10), row(1, 0, -3)}
	for _, nothing := range []string{"1 / 0", "a % c", "a / q", "0 * (1 / 0)", "1 + (2 - (3 * -(a / (a - 7))))", "(a < 1 % 0) == 0", "(1 / 0) / 0"} {
		for _, stmt := range []string{
			"x = @;", "x = read A[@];", "write A[@] = 5;", "write A[1] = @;", "write A[@] = @;", "if (@) { return 1; }", "if (@) { return 1; } else { return 2; }", "return @;",
		} {
			stmt = strings.ReplaceAll(stmt, "@", nothing)
			for _, around := range []string{"@ return 1;", "write A[1] = 99; write B[0] = 0; write B[7] = 1; @ return 1;", "if (1) { write A[1] = 9; @ return 1; } return 1;", "if (0) { } else { @ return 1; } return 1;",
				"for i in 4 { write A[i] = i + 1; if (i == 2) { @ return 1; } } return 1;", "for i in 2 { for j in 2 { write C[i] = 1; if (i * j) { @ } } } return 1;"} {
				alone(t, strings.ReplaceAll(around, "@", stmt), state...).aborts(t)
			}
			// Where it is not come to, it does not matter.
			alone(t, "if (0) { "+stmt+" } return 1;", state...).returns(t, 1, state...)
			alone(t, "return 1; "+stmt, state...).returns(t, 1, state...)
		}
	}
	// A round that is not the first.
	alone(t, "for i in 4 { write A[1] = 5; x = 6 / (2 - i); } return 1;", state...).aborts(t)
	alone(t, "for i in 2 { write A[1] = 5; x = x * 10 + 6 / (2 - i); } return x;", state...).returns(t, 36, row(0, 1, 5), row(1, 0, -3))
	alone(t, "for i in 4 { x = 3 - i; y = y + 6 % x; write C[x] = 1; } return 1;", state...).aborts(t)
	alone(t, "for i in 3 { x = read B[i / (1 - i)]; } return 1;", state...).aborts(t)
	// A row that is not there is a divisor 0.
	alone(t, "x = read D[1]; return 1 / x;", state...).aborts(t)
	alone(t, "x = read A[1]; return 25 / x;", state...).returns(t, 2, state...)
}

func TestSerialReckonsAsEvalDoes(t *testing.T) {
	least := []int{math.MinInt, -1, math.MaxInt}
	for expr, want := range map[string]int{"a / b": math.MinInt, "a % b": 0, "-a": math.MinInt, "c + 1": math.MinInt, "a - 1": math.MaxInt, "a * b": math.MinInt, "c * 2": -2, "a < c": 1, "-7 / 2": -3, "-7 % 2": -1, "7 / -2": -3, "7 % -2": 1} {
		alone(t, "return "+expr+";").with(least...).returns(t, want)
		alone(t, "x = "+expr+"; return x;").with(least...).returns(t, want)
		if want != 0 {
			alone(t, "write B["+expr+"] = "+expr+";").with(least...).returns(t, 0, row(1, want, want))
			alone(t, "x = read C["+expr+"]; return x;", row(2, want, 5)).with(least...).returns(t, 5, row(2, want, 5))
			alone(t, "if ("+expr+") { return 1; } return 2;").with(least...).returns(t, 1)
		}
	}
}

func TestSerialParams(t *testing.T) {
	digits := "return a * 100 + b * 10 + c;"
	serial{p: mustParse(t, "proc p() { "+digits+" }")}.returns(t, 0)
	serial{p: mustParse(t, "proc p() { "+digits+" }"), args: []int{}}.returns(t, 0)
	serial{p: mustParse(t, "proc p(b) { "+digits+" }"), args: []int{4}}.returns(t, 40)
	serial{p: mustParse(t, "proc p(c, a) { "+digits+" }"), args: []int{4, 5}}.returns(t, 504)
	serial{p: mustParse(t, "proc p(c, a, b) { "+digits+" }"), args: []int{4, 5, 6}}.returns(t, 564)
	// Of several of one name the last one counts.
	serial{p: mustParse(t, "proc p(a, a) { "+digits+" }"), args: []int{4, 5}}.returns(t, 500)
	serial{p: mustParse(t, "proc p(a, a, b) { "+digits+" }"), args: []int{4, 5, 6}}.returns(t, 560)
	serial{p: mustParse(t, "proc p(a, b, a) { "+digits+" }"), args: []int{4, 5, 6}}.returns(t, 650)
	serial{p: mustParse(t, "proc p(b, a, a) { "+digits+" }"), args: []int{4, 5, 6}}.returns(t, 640)
	serial{p: mustParse(t, "proc p(a, a, a) { "+digits+" }"), args: []int{4, 5, 6}}.returns(t, 600)
	serial{p: mustParse(t, "proc p(a, a) { "+digits+" }"), args: []int{4, 0}}.returns(t, 0)
}

// Names are rows of any bytes.
func TestSerialOfStrangeNames(t *testing.T) {
	for _, s := range []string{"", "$0", "\xff\x00", "read", "a b", strings.Repeat("n", 2000)} {
		p := bodySet(varNode(s), numNode(1), kidsNode(impl.NkAdd, 0, 1), nodeOf(impl.NkSet, s, 0, 2), varNode(s), kidsNode(impl.NkReturn, 4), kidsNode(impl.NkBlock, 3, 5))
		serial{p: p}.returns(t, 1)
		p.Procs[0].Params = []string{"x", s}
		serial{p: p, args: []int{50, 60}}.returns(t, 61)
		p = bodySet(numNode(7), nodeOf(impl.NkRead, s, 2, 0), varNode(s), kidsNode(impl.NkReturn, 2), kidsNode(impl.NkBlock, 1, 3))
		serial{p: p, state: []impl.Row{row(2, 7, 9)}}.returns(t, 9, row(2, 7, 9))
		p = bodySet(kidsNode(impl.NkBlock), nodeOf(impl.NkFor, s, 3, 0), varNode(s), kidsNode(impl.NkReturn, 2), kidsNode(impl.NkBlock, 1, 3))
		serial{p: p}.returns(t, 2)
	}
}

// conflictSet writes row 1 of the table of conflicts, and returns what row 1 of D has.
func conflictSet(val int) impl.Set {
	return bodySet(numNode(1), numNode(val), nodeOf(impl.NkWrite, "", 4, 0, 1), numNode(1), nodeOf(impl.NkRead, "x", 3, 3), varNode("x"), kidsNode(impl.NkReturn, 5), kidsNode(impl.NkBlock, 2, 4, 6))
}

func TestSerialWritesTheTableOfConflicts(t *testing.T) {
	serial{p: conflictSet(1)}.returns(t, 0, row(4, 1, 1))
	serial{p: conflictSet(1), state: []impl.Row{row(3, 1, 6), row(4, 0, 2), row(4, 1, 5)}}.returns(t, 6, row(3, 1, 6), row(4, 0, 2), row(4, 1, 1))
	serial{p: conflictSet(0), state: []impl.Row{row(3, 1, 6), row(4, 0, 2), row(4, 1, 5)}}.returns(t, 6, row(3, 1, 6), row(4, 0, 2))
	gone := conflictSet(1)
	gone.L[6] = kidsNode(impl.NkNeg, 5)
	gone.L[7] = kidsNode(impl.NkReturn, 6)
	gone.L = append(gone.L, kidsNode(impl.NkAbort), kidsNode(impl.NkBlock, 2, 4, 8, 7))
	gone.Procs[0].Body = 9
	serial{p: gone, state: []impl.Row{row(4, 1, 5)}}.aborts(t)
	_, l := impl.RunSerial(conflictSet(3), 0, nil, []impl.Row{row(3, 1, 6)})
	if got := impl.UserRows(l); !sameRows(got, []impl.Row{row(3, 1, 6)}) {
		t.Error(got)
	}
}

// What its Kind does not ask for does not matter.
func TestSerialLeavesOutTheRest(t *testing.T) {
	odd := bodySet(numNode(1), nodeOf(impl.NkSet, "x", 99, 0), numNode(2), numNode(3), nodeOf(impl.NkWrite, "x", 0, 2, 3),
		numNode(4), nodeOf(impl.NkBlock, "x", 99), nodeOf(impl.NkIf, "x", 99, 5, 6), nodeOf(impl.NkVar, "x", 99), nodeOf(impl.NkReturn, "x", 99, 8), nodeOf(impl.NkAbort, "x", 99),
		nodeOf(impl.NkBlock, "odd", 99, 1, 4, 7, 9, 10))
	serial{p: odd}.returns(t, 1, row(0, 2, 3))
}

// The order is that of Kids, whichever way the nodes stand.
func TestSerialOfNodesInOtherOrders(t *testing.T) {
	p := impl.Set{
		L: []impl.Node{numNode(5), kidsNode(impl.NkReturn, 0), numNode(3), numNode(2), nodeOf(impl.NkWrite, "", 1, 3, 2), kidsNode(impl.NkAbort),
			kidsNode(impl.NkBlock), kidsNode(impl.NkBlock, 4, 1, 5)},
		Procs: []impl.Proc{{Name: "q", Body: 7}, {Name: "p", Body: 6}},
	}
	serial{p: p}.returns(t, 5, row(1, 2, 3))
	serial{p: p, k: 1}.returns(t, 0)
	p.L[7].Kids = []int{5, 4, 1}
	serial{p: p}.aborts(t)
	p.L[7].Kids = []int{1, 4, 5}
	serial{p: p}.returns(t, 5)
}

func TestSerialOfManyRows(t *testing.T) {
	state := manyRows(5000)
	k := state[2500].K
	s := serial{p: mustParse(t, "proc p(r) { x = read C[r]; write C[r] = 0; write C[r + 1] = x; return x; }"), args: []int{k.R}, state: state}
	want := append([]impl.Row{}, state...)
	want[2500].K.R++
	s.returns(t, want[2500].Val, want...)
	serial{p: mustParse(t, "proc p() { write A[1] = 1; abort; }"), state: state}.aborts(t)
}

// The longest runs that there may be, and more writes than a transaction could have.
func TestSerialOfTheLongestRuns(t *testing.T) {
	s := serial{p: mustParse(t, "proc p() { for i in 4 { for j in 4 { for k in 4 { for l in 4 { n = n + 1; write A[n] = n; write B[n % 7] = n; } } } } return n; }")}
	if !impl.TargetOk(s.p) {
		t.Fatal("may not be run")
	}
	var rows []impl.Row
	for n := 1; n <= 256; n++ {
		rows = append(rows, row(0, n, n))
	}
	for r, n := range []int{252, 253, 254, 255, 256, 250, 251} {
		rows = append(rows, row(1, r, n))
	}
	s.returns(t, 256, rows...)
	serial{p: loopsSet(4*impl.MaxStmts+1, 1)}.returns(t, 0)
	serial{p: signsSet(impl.MaxTree)}.returns(t, 0)
	p := signsSet(impl.MaxTree)
	p.Procs[0].Params = []string{"x"}
	serial{p: p, args: []int{9}}.returns(t, -9)
}
