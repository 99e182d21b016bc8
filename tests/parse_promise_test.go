package tests

import (
	"strconv"
	"strings"
	"testing"

	"loop.example/g00689/impl"
)

func wantPlainParse(t *testing.T, s string) {
	t.Helper()
	want, at := plainParse(s)
	if p, k := impl.Parse(s); k != at || !plainSet(p, want) {
		t.Fatalf("Parse(%q) is %v, %d, not %v, %d", s, p, k, want, at)
	}
}

// drawSrc draws texts of sets, word by word, by the rules.
type drawSrc struct {
	d     *dice
	words []string
}

func (g *drawSrc) put(words ...string) {
	g.words = append(g.words, words...)
}

func (g *drawSrc) one(of ...string) string {
	return of[g.d.below(len(of))]
}

func (g *drawSrc) name() string {
	return g.one("x", "y", "z_1", "acc", "forx", "abcdefghijklmnopqrst")
}

func (g *drawSrc) table() string {
	return g.one("A", "B", "C", "D")
}

func (g *drawSrc) expr(size int) {
	g.sum(size)
	if g.d.below(4) == 0 {
		g.put(g.one("<", "=="))
		g.sum(size)
	}
}

func (g *drawSrc) sum(size int) {
	g.product(size)
	for g.d.below(3) == 0 {
		g.put(g.one("+", "-"))
		g.product(size)
	}
}

func (g *drawSrc) product(size int) {
	g.signed(size)
	for g.d.below(4) == 0 {
		g.put(g.one("*", "/", "%"))
		g.signed(size)
	}
}

func (g *drawSrc) signed(size int) {
	switch k := g.d.below(8); {
	case k == 0 && size > 0:
		g.put("-")
		g.signed(size - 1)
	case k <= 2 && size > 0:
		g.put("(")
		g.expr(size - 1)
		g.put(")")
	case k <= 4:
		g.put(g.one("0", "1", "42", "007", "999999999"))
	default:
		g.put(g.name())
	}
}

func (g *drawSrc) block(size int) {
	g.put("{")
	for g.d.below(3) > 0 {
		g.stmt(size)
	}
	g.put("}")
}

func (g *drawSrc) stmt(size int) {
	k := g.d.below(9)
	if size == 0 && k < 3 {
		k += 3
	}
	switch k {
	case 0, 1:
		g.put("if", "(")
		g.expr(2)
		g.put(")")
		g.block(size - 1)
		if k == 1 {
			g.put("else")
			g.block(size - 1)
		}
	case 2:
		g.put("for", g.name(), "in", g.one("0", "1", "4", "100"))
		g.block(size - 1)
	case 3, 4:
		g.put(g.name(), "=", "read", g.table(), "[")
		g.expr(2)
		g.put("]", ";")
	case 5:
		g.put("write", g.table(), "[")
		g.expr(2)
		g.put("]", "=")
		g.expr(2)
		g.put(";")
	case 6:
		g.put("abort", ";")
	case 7:
		g.put("return")
		g.expr(2)
		g.put(";")
	default:
		g.put(g.name(), "=")
		g.expr(4)
		g.put(";")
	}
}

func drawWords(d *dice) []string {
	g := &drawSrc{d: d}
	for range d.below(4) {
		g.put("proc", g.name(), "(")
		for i := range d.below(4) {
			if i > 0 {
				g.put(",")
			}
			g.put(g.name())
		}
		g.put(")")
		g.block(3)
	}
	return g.words
}

// joined has white bytes stand between words, more or fewer of them.
func joined(d *dice, words []string) string {
	var b strings.Builder
	for _, w := range words {
		b.WriteString(w)
		b.WriteString([]string{" ", " ", "\n", "\t  "}[d.below(4)])
	}
	return b.String()
}

// wholeTree says that the nodes are those of the procedures, each behind its kids, in the order in which they are complete, and each of them once.
func wholeTree(p impl.Set) bool {
	next := 0
	var walk func(k int) bool
	walk = func(k int) bool {
		if k < 0 || k >= len(p.L) {
			return false
		}
		for _, kid := range p.L[k].Kids {
			if kid >= k || !walk(kid) {
				return false
			}
		}
		next++
		return k == next-1
	}
	for _, proc := range p.Procs {
		if !walk(proc.Body) || p.L[proc.Body].Kind != impl.NkBlock {
			return false
		}
	}
	return next == len(p.L)
}

// ownersOf counts of how many nodes each node is a kid, and of how many procedures the body.
func ownersOf(p impl.Set) []int {
	n := make([]int, len(p.L))
	for _, x := range p.L {
		for _, kid := range x.Kids {
			n[kid]++
		}
	}
	for _, proc := range p.Procs {
		n[proc.Body]++
	}
	return n
}

var betweenTexts = map[int]string{impl.NkAdd: "+", impl.NkSub: "-", impl.NkMul: "*", impl.NkDiv: "/", impl.NkRest: "%", impl.NkLess: "<", impl.NkSame: "=="}

// bracketed is the text of a node with brackets around each expression of more than one word.
func bracketed(p impl.Set, k int) string {
	x := p.L[k]
	kid := func(i int) string { return bracketed(p, x.Kids[i]) }
	switch x.Kind {
	case impl.NkNum:
		return strconv.Itoa(x.N)
	case impl.NkVar:
		return x.S
	case impl.NkNeg:
		return "(-" + kid(0) + ")"
	case impl.NkSet:
		return x.S + " = " + kid(0) + ";"
	case impl.NkRead:
		return x.S + " = read " + impl.TableText(x.N) + "[" + kid(0) + "];"
	case impl.NkWrite:
		return "write " + impl.TableText(x.N) + "[" + kid(0) + "] = " + kid(1) + ";"
	case impl.NkIf:
		if len(x.Kids) == 3 {
			return "if (" + kid(0) + ") " + kid(1) + " else " + kid(2)
		}
		return "if (" + kid(0) + ") " + kid(1)
	case impl.NkFor:
		return "for " + x.S + " in " + strconv.Itoa(x.N) + " " + kid(0)
	case impl.NkAbort:
		return "abort;"
	case impl.NkReturn:
		return "return " + kid(0) + ";"
	case impl.NkBlock:
		text := "{ "
		for i := range x.Kids {
			text += kid(i) + " "
		}
		return text + "}"
	}
	return "(" + kid(0) + " " + betweenTexts[x.Kind] + " " + kid(1) + ")"
}

func bracketedSet(p impl.Set) string {
	text := ""
	for _, proc := range p.Procs {
		text += "proc " + proc.Name + "(" + strings.Join(proc.Params, ", ") + ") " + bracketed(p, proc.Body) + "\n"
	}
	return text
}

// Promise 4: in what is read each node stands behind its kids and belongs to one.
func TestPromise4(t *testing.T) {
	d := dice(4)
	taken, again, long := 0, 0, 0
	for range 2000 {
		s := joined(&d, drawWords(&d))
		wantPlainParse(t, s)
		p, k := impl.Parse(s)
		if k != -1 {
			if k != len(s) && len(s) <= impl.MaxSrc {
				t.Fatalf("Parse(%q) is refused at %d", s, k)
			}
			long++
			continue
		}
		taken++
		if !wholeTree(p) {
			t.Fatalf("Parse(%q) is no tree: %v", s, p)
		}
		for i, n := range ownersOf(p) {
			if n != 1 {
				t.Fatalf("Parse(%q): node %d belongs to %d", s, i, n)
			}
		}
		if text := bracketedSet(p); len(text) <= impl.MaxSrc {
			again++
			wantSet(t, text, p)
		}
	}
	if taken < 1500 || again < 1500 || long > 200 {
		t.Error("too few of a kind:", taken, again, long)
	}
}

var anyWord = []string{"x", "7", "A", "proc", "read", "write", "if", "else", "for", "in", "abort", "return",
	"{", "}", "(", ")", "[", "]", ";", ",", "=", "==", "<", "+", "-", "*", "/", "%"}

// spoil takes a word away, or puts one in, or in the place of another, or has two change places.
func spoil(d *dice, words []string) []string {
	i, w := d.below(len(words)), anyWord[d.below(len(anyWord))]
	spoilt := append([]string{}, words[:i]...)
	switch d.below(4) {
	case 0:
		return append(spoilt, words[i+1:]...)
	case 1:
		return append(append(spoilt, w), words[i:]...)
	case 2:
		return append(append(spoilt, w), words[i+1:]...)
	}
	spoilt = append(spoilt, words[i:]...)
	j := d.below(len(words))
	spoilt[i], spoilt[j] = spoilt[j], spoilt[i]
	return spoilt
}

func TestPromise4OfSpoiltTexts(t *testing.T) {
	d := dice(44)
	taken, refused := 0, 0
	for range 4000 {
		words := drawWords(&d)
		if len(words) == 0 {
			continue
		}
		s := joined(&d, spoil(&d, words))
		wantPlainParse(t, s)
		p, k := impl.Parse(s)
		if k == -1 && !wholeTree(p) {
			t.Fatalf("Parse(%q) is no tree: %v", s, p)
		}
		if k == -1 {
			taken++
		} else {
			refused++
		}
	}
	if taken < 150 || refused < 2000 {
		t.Error("too few of a kind:", taken, refused)
	}
}

// All that may stand next, and next but one, in each place that the rules know.
func TestParseEachPairOfWordsInEachPlace(t *testing.T) {
	ahead := []string{"", "proc", "proc p", "proc p (", "proc p ( a", "proc p ( a ,", "proc p ( a , b", "proc p ( )", "proc p ( ) {", "proc p ( ) { abort ;", "proc p ( ) { }"}
	for _, stmt := range []string{"x", "x =", "x = read", "x = read B", "x = read B [", "x = read B [ 1", "x = read B [ 1 ]", "x = 1", "x = y", "x = 1 +", "x = 1 *", "x = 1 <", "x = 1 < 2", "x = 1 == 2 +", "x = -", "x = - -", "x = (", "x = ( 1", "x = ( 1 )", "x = ( 1 < 2", "x = ( 1 < 2 )", "x = 1 ;",
		"write", "write C", "write C [", "write C [ 1", "write C [ 1 ]", "write C [ 1 ] =", "write C [ 1 ] = 2", "write C [ 1 ] = 2 ;",
		"if", "if (", "if ( 1", "if ( 1 )", "if ( 1 ) {", "if ( 1 ) { }", "if ( 1 ) { } else", "if ( 1 ) { } else {", "if ( 1 ) { } else { }",
		"for", "for i", "for i in", "for i in 3", "for i in 3 {", "for i in 3 { }", "abort", "return", "return 1", "return 1 ;"} {
		ahead = append(ahead, "proc p ( ) { "+stmt, "proc p ( ) { for i in 2 { "+stmt)
	}
	for _, s := range ahead {
		wantPlainParse(t, s)
		for _, a := range anyWord {
			wantPlainParse(t, s+" "+a)
			for _, b := range anyWord {
				wantPlainParse(t, s+" "+a+" "+b)
			}
		}
	}
}

func TestParseOfAnyBytes(t *testing.T) {
	for a := range 256 {
		for _, behind := range []string{"", " ", "proc p() { }", "#"} {
			wantPlainParse(t, string([]byte{byte(a)})+behind)
			wantPlainParse(t, "proc p() { }"+string([]byte{byte(a)})+behind)
		}
	}
	d := dice(444)
	for range 3000 {
		wantPlainParse(t, drawText(&d))
		wantPlainParse(t, "proc p() { x = "+drawText(&d))
		odd := make([]byte, d.below(20))
		for i := range odd {
			odd[i] = byte(d.below(256))
		}
		wantPlainParse(t, string(odd))
	}
}

// Texts of brackets, signs and blocks alone, to well below the deepest.
func TestParseOfDeepDrawnTexts(t *testing.T) {
	d := dice(4444)
	deepest, shallow := 0, 0
	for range 2000 {
		s := "proc p() {" + strings.Repeat([]string{"for i in 1 {", "if (1) {", "if (x) { } else {"}[d.below(3)], d.below(impl.MaxDeep+2))
		s += []string{"x = ", "return ", "write A[", "y = read B[", "if ("}[d.below(5)]
		open := 0
		for range d.below(2 * impl.MaxDeep) {
			w := []string{"(", "-", "(", "-", "1 + ", "x * ", "2 < "}[d.below(7)]
			if w == "(" {
				open++
			}
			s += w
		}
		s += "1" + strings.Repeat(")", open)
		wantPlainParse(t, s)
		if _, k := impl.Parse(s); k < len(s) {
			deepest++
		} else {
			shallow++
		}
	}
	if deepest < 500 || shallow < 500 {
		t.Error("too few of a kind:", deepest, shallow)
	}
}
