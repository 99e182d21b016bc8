package tests

import (
	"slices"
	"strings"
	"testing"
	"unsafe"

	"loop.example/g00689/impl"
)

var lexWords = []string{"proc", "read", "write", "if", "else", "for", "in", "abort", "return"}
var lexSigns = []string{"{", "}", "(", ")", "[", "]", ";", ",", "=", "<", "+", "-", "*", "/", "%", "=="}

func num(n, at int) impl.Tok {
	return impl.Tok{Kind: impl.TkNum, N: n, At: at}
}

func name(s string, at int) impl.Tok {
	return impl.Tok{Kind: impl.TkName, S: s, At: at}
}

func word(s string, at int) impl.Tok {
	return impl.Tok{Kind: impl.TkWord, S: s, At: at}
}

func table(s string, n, at int) impl.Tok {
	return impl.Tok{Kind: impl.TkTable, S: s, N: n, At: at}
}

func sign(s string, at int) impl.Tok {
	return impl.Tok{Kind: impl.TkSign, S: s, At: at}
}

func wantLex(t *testing.T, s string, want ...impl.Tok) {
	t.Helper()
	if l, k := impl.Lex(s); k != -1 || !slices.Equal(l, want) {
		t.Errorf("Lex(%.60q) is %v, %d, not %v, -1", s, l, k, want)
	}
}

// wantNoWord asks for nothing beside the number of the byte.
func wantNoWord(t *testing.T, s string, at int) {
	t.Helper()
	if l, k := impl.Lex(s); k != at || len(l) != 0 {
		t.Errorf("Lex(%.60q) is %v, %d, not nothing, %d", s, l, k, at)
	}
}

func TestIsWord(t *testing.T) {
	for _, s := range lexWords {
		if !impl.IsWord(s) {
			t.Errorf("%q is a word", s)
		}
		for _, other := range []string{s + "s", s + " ", " " + s, s[1:], s[:len(s)-1], strings.ToUpper(s), s + s, s + "\x00"} {
			if impl.IsWord(other) {
				t.Errorf("%q is no word", other)
			}
		}
	}
	for _, s := range []string{"", "x", "A", "1", "==", "{", "while", "\xff"} {
		if impl.IsWord(s) {
			t.Errorf("%q is no word", s)
		}
	}
}

func TestNameOk(t *testing.T) {
	good := []string{"a", "z", "x_1", "a_", "a9", "a0z", "q__", "procs", "fo", "inn", "for1", "if_", strings.Repeat("a", 20), "z" + strings.Repeat("_", 19), "b" + strings.Repeat("7", 19)}
	for _, s := range good {
		if !impl.NameOk(s) {
			t.Errorf("%q is a name", s)
		}
	}
	bad := []string{"", "1", "1x", "_", "_x", "A", "aB", "Ba", "x y", " x", "x ", "x\n", "x-1", "x`", "x{", "x/", "x:", "`", "{", "x\x00", "x\xc3\xa9", "\xc3\xa9", "x\xff", "#", strings.Repeat("a", 21), strings.Repeat("a", 5000)}
	for _, s := range append(bad, lexWords...) {
		if impl.NameOk(s) {
			t.Errorf("%q is no name", s)
		}
	}
}

func TestNameOkOfEachByte(t *testing.T) {
	for b := range 256 {
		letter := b >= 'a' && b <= 'z'
		inside := letter || b >= '0' && b <= '9' || b == '_'
		if s := string([]byte{byte(b)}); impl.NameOk(s) != letter {
			t.Errorf("NameOk(%q) is %t", s, !letter)
		}
		for _, s := range []string{string([]byte{'x', byte(b)}), string([]byte{'x', byte(b), 'x'})} {
			if impl.NameOk(s) != inside {
				t.Errorf("NameOk(%q) is %t", s, !inside)
			}
		}
	}
}

func TestTableOf(t *testing.T) {
	for b := range 256 {
		want := -1
		if b >= 'A' && b <= 'D' {
			want = b - 'A'
		}
		if s := string([]byte{byte(b)}); impl.TableOf(s) != want {
			t.Errorf("TableOf(%q) is %d, not %d", s, impl.TableOf(s), want)
		}
	}
	for _, s := range []string{"", "AB", "BC", "AA", "A ", " A", "ABCD", "A#", "A\x00", "0", "a"} {
		if impl.TableOf(s) != -1 {
			t.Errorf("TableOf(%q) is %d, not -1", s, impl.TableOf(s))
		}
	}
}

func TestTableText(t *testing.T) {
	for i, want := range []string{"", "A", "B", "C", "D", "#", ""} {
		if got := impl.TableText(i - 1); got != want {
			t.Errorf("TableText(%d) is %q, not %q", i-1, got, want)
		}
	}
	for _, far := range []int{-1 << 63, -2, 6, 65, 256, 1 << 32, 1<<63 - 1} {
		if got := impl.TableText(far); got != "" {
			t.Errorf("TableText(%d) is %q, not empty", far, got)
		}
	}
}

func TestLexEachKind(t *testing.T) {
	wantLex(t, "7", num(7, 0))
	wantLex(t, " 0 ", num(0, 1))
	wantLex(t, "rows", name("rows", 0))
	for _, s := range lexWords {
		wantLex(t, s, word(s, 0))
		wantLex(t, "\t"+s+"\n", word(s, 1))
	}
	for i, s := range []string{"A", "B", "C", "D"} {
		wantLex(t, s, table(s, i, 0))
	}
	for _, s := range lexSigns {
		wantLex(t, s, sign(s, 0))
	}
	wantLex(t, "proc f(x){ y = read D[x % 3]; write B[0] = -y; if (x<y) { abort; } else { return 10; } }",
		word("proc", 0), name("f", 5), sign("(", 6), name("x", 7), sign(")", 8), sign("{", 9),
		name("y", 11), sign("=", 13), word("read", 15), table("D", 3, 20), sign("[", 21), name("x", 22), sign("%", 24), num(3, 26), sign("]", 27), sign(";", 28),
		word("write", 30), table("B", 1, 36), sign("[", 37), num(0, 38), sign("]", 39), sign("=", 41), sign("-", 43), name("y", 44), sign(";", 45),
		word("if", 47), sign("(", 50), name("x", 51), sign("<", 52), name("y", 53), sign(")", 54), sign("{", 56), word("abort", 58), sign(";", 63), sign("}", 65),
		word("else", 67), sign("{", 72), word("return", 74), num(10, 81), sign(";", 83), sign("}", 85), sign("}", 87))
}

func TestLexSideBySide(t *testing.T) {
	wantLex(t, "12ab", num(12, 0), name("ab", 2))
	wantLex(t, "12for3", num(12, 0), name("for3", 2))
	wantLex(t, "0in", num(0, 0), word("in", 1))
	wantLex(t, "7B7", num(7, 0), table("B", 1, 1), num(7, 2))
	wantLex(t, "ab12", name("ab12", 0))
	wantLex(t, "x_1=y", name("x_1", 0), sign("=", 3), name("y", 4))
	wantLex(t, "x;", name("x", 0), sign(";", 1))
	wantLex(t, "if(", word("if", 0), sign("(", 2))
	wantLex(t, "ifx", name("ifx", 0))
	wantLex(t, "if_", name("if_", 0))
	wantLex(t, "xA", name("x", 0), table("A", 0, 1))
	wantLex(t, "inC", word("in", 0), table("C", 2, 2))
	wantLex(t, "ABCD", table("A", 0, 0), table("B", 1, 1), table("C", 2, 2), table("D", 3, 3))
	wantLex(t, "Aa", table("A", 0, 0), name("a", 1))
	wantLex(t, "A1", table("A", 0, 0), num(1, 1))
	wantLex(t, "-1-2", sign("-", 0), num(1, 1), sign("-", 2), num(2, 3))
	wantLex(t, "a\nb\tc d", name("a", 0), name("b", 2), name("c", 4), name("d", 6))
}

func TestLexRowsOfEqualSigns(t *testing.T) {
	wantLex(t, "=", sign("=", 0))
	wantLex(t, "==", sign("==", 0))
	wantLex(t, "= =", sign("=", 0), sign("=", 2))
	wantLex(t, "= ==", sign("=", 0), sign("==", 2))
	wantLex(t, "== =", sign("==", 0), sign("=", 3))
	wantLex(t, "===", sign("==", 0), sign("=", 2))
	wantLex(t, "====", sign("==", 0), sign("==", 2))
	wantLex(t, "=====", sign("==", 0), sign("==", 2), sign("=", 4))
	wantLex(t, "<=", sign("<", 0), sign("=", 1))
	wantLex(t, "=<", sign("=", 0), sign("<", 1))
	wantLex(t, "<<", sign("<", 0), sign("<", 1))
	wantLex(t, "--", sign("-", 0), sign("-", 1))
	wantLex(t, "x==-1", name("x", 0), sign("==", 1), sign("-", 3), num(1, 4))
}

func TestLexNothing(t *testing.T) {
	for _, s := range []string{"", " ", "\t", "\n", " \t\n\n \t"} {
		wantLex(t, s)
	}
}

func TestLexDigits(t *testing.T) {
	wantLex(t, "123456789", num(123456789, 0))
	wantLex(t, "999999999", num(999999999, 0))
	wantLex(t, "000000000", num(0, 0))
	wantLex(t, "000000012", num(12, 0))
	wantLex(t, "010", num(10, 0))
	wantLex(t, "999999999x", num(999999999, 0), name("x", 9))
	wantLex(t, "123456789 123456789", num(123456789, 0), num(123456789, 10))
	wantNoWord(t, "1234567890", 0)
	wantNoWord(t, "0000000000", 0)
	wantNoWord(t, "0000000001", 0)
	wantNoWord(t, " 1234567890", 1)
	wantNoWord(t, "x=1234567890;", 2)
	wantNoWord(t, "1234567890abc", 0)
	wantNoWord(t, "-1234567890", 1)
	wantNoWord(t, "1234567890 #", 0)
	wantNoWord(t, "# 1234567890", 0)
	wantNoWord(t, "5 "+strings.Repeat("9", 19), 2)
	wantNoWord(t, "5 "+strings.Repeat("9", impl.MaxSrc-2), 2)
	wantNoWord(t, "5 "+strings.Repeat("0", 20), 2)
}

func TestLexNames(t *testing.T) {
	twenty := "abcdefghij_123456789"
	wantLex(t, twenty, name(twenty, 0))
	wantLex(t, twenty+"="+twenty, name(twenty, 0), sign("=", 20), name(twenty, 21))
	wantLex(t, twenty+"A", name(twenty, 0), table("A", 0, 20))
	wantLex(t, "return"+strings.Repeat("_", 14), name("return"+strings.Repeat("_", 14), 0))
	for _, more := range []string{"a", "z", "0", "9", "_"} {
		wantNoWord(t, twenty+more, 0)
		wantNoWord(t, "x = "+twenty+more+";", 4)
	}
	wantNoWord(t, "1"+twenty+"0", 1)
	wantNoWord(t, "proc"+strings.Repeat("c", 17), 0)
	wantNoWord(t, "for "+strings.Repeat("for", 7), 4)
	wantNoWord(t, strings.Repeat("q", impl.MaxSrc), 0)
}

func TestLexStrangeBytes(t *testing.T) {
	known := "{}()[];,=<+-*/% \t\nABCD0123456789abcdefghijklmnopqrstuvwxyz"
	strange := 0
	for b := range 256 {
		s := string([]byte{byte(b)})
		if strings.Contains(known, s) {
			if _, k := impl.Lex(s); k != -1 {
				t.Errorf("Lex(%q) is refused at %d", s, k)
			}
			continue
		}
		strange++
		wantNoWord(t, s, 0)
		wantNoWord(t, "x = "+s, 4)
		wantNoWord(t, "A"+s+"B", 1)
		wantNoWord(t, "=="+s+"#", 2)
		wantNoWord(t, " \n"+s, 2)
		if s != "_" {
			wantNoWord(t, "12ab"+s+"cd", 4)
		}
	}
	if strange != 256-len(known) {
		t.Error("strange bytes:", strange)
	}
	wantNoWord(t, "1_", 1)
	wantNoWord(t, "A_x", 1)
	wantNoWord(t, "a E", 2)
	wantNoWord(t, "a!=b", 1)
	wantNoWord(t, "a\rb", 1)
	wantNoWord(t, "aé", 1)
	wantNoWord(t, "Ä", 0)
	wantNoWord(t, "# 1234567890 E", 0)
	wantNoWord(t, "1 E 1234567890", 2)
}

func TestLexLongest(t *testing.T) {
	full := make([]impl.Tok, impl.MaxSrc)
	for i := range full {
		full[i] = sign(";", i)
	}
	wantLex(t, strings.Repeat(";", impl.MaxSrc), full...)
	wantLex(t, strings.Repeat(" ", impl.MaxSrc-1)+"x", name("x", impl.MaxSrc-1))
	wantLex(t, "x"+strings.Repeat("\n", impl.MaxSrc-1), name("x", 0))
	wantNoWord(t, strings.Repeat(" ", impl.MaxSrc-1)+"E", impl.MaxSrc-1)
	wantNoWord(t, strings.Repeat(";", impl.MaxSrc+1), 0)
	wantNoWord(t, strings.Repeat(" ", impl.MaxSrc+1), 0)
	wantNoWord(t, strings.Repeat(" ", impl.MaxSrc)+"#", 0)
	wantNoWord(t, "x #"+strings.Repeat(" ", impl.MaxSrc-2), 0)
	wantNoWord(t, strings.Repeat("x ", 50*impl.MaxSrc), 0)
}

func inside(part, whole string) bool {
	from := uintptr(unsafe.Pointer(unsafe.StringData(whole)))
	at := uintptr(unsafe.Pointer(unsafe.StringData(part)))
	return at >= from && at < from+uintptr(len(whole))
}

func TestLexAnswersNewMemory(t *testing.T) {
	s := strings.Repeat("proc f(x) { x = read A[12] == 3; }\n", 20)
	first, _ := impl.Lex(s)
	for _, w := range first {
		if w.S != "" && inside(w.S, s) {
			t.Fatalf("%q shares the memory of the text", w.S)
		}
	}
	kept := slices.Clone(first)
	fill(first, impl.Tok{Kind: -77, S: "other", N: -77, At: -77})
	if second, k := impl.Lex(s); k != -1 || !slices.Equal(second, kept) {
		t.Error("what was done to one answer is seen in the next:", second, k)
	}
}
