package tests

import (
	"regexp"
	"slices"
	"strconv"
	"strings"
	"testing"

	"loop.example/g00689/impl"
)

var (
	whites    = regexp.MustCompile(`^[ \t\n]+`)
	numbers   = regexp.MustCompile(`^[0-9]+`)
	names     = regexp.MustCompile(`^[a-z][a-z0-9_]*`)
	reserved  = regexp.MustCompile(`^(proc|read|write|if|else|for|in|abort|return)$`)
	tableName = regexp.MustCompile(`^[A-D]`)
	signs     = regexp.MustCompile(`^(==|[{}()\[\];,=<+\-*/%])`)
)

// plainWord reads the word with which s begins, by patterns; its length is 0, if it is none.
func plainWord(s string, at int) (impl.Tok, int) {
	if d := numbers.FindString(s); d != "" && len(d) <= 9 {
		n, _ := strconv.Atoi(d)
		return num(n, at), len(d)
	}
	if w := names.FindString(s); w != "" && len(w) <= 20 {
		if reserved.MatchString(w) {
			return word(w, at), len(w)
		}
		return name(w, at), len(w)
	}
	if w := tableName.FindString(s); w != "" {
		return table(w, strings.Index("ABCD", w), at), 1
	}
	if w := signs.FindString(s); w != "" {
		return sign(w, at), len(w)
	}
	return impl.Tok{}, 0
}

func plainLex(s string) ([]impl.Tok, int) {
	var l []impl.Tok
	at := 0
	for at < len(s) {
		at += len(whites.FindString(s[at:]))
		if at == len(s) {
			break
		}
		w, n := plainWord(s[at:], at)
		if n == 0 {
			return nil, at
		}
		l = append(l, w)
		at += n
	}
	return l, -1
}

func wantPlain(t *testing.T, s string) {
	t.Helper()
	want, at := plainLex(s)
	if l, k := impl.Lex(s); k != at || !slices.Equal(l, want) {
		t.Fatalf("Lex(%q) is %v, %d, not %v, %d", s, l, k, want, at)
	}
}

func tokText(w impl.Tok) string {
	if w.Kind == impl.TkNum {
		return strconv.Itoa(w.N)
	}
	return w.S
}

// covered says that the words of l stand in s one behind the other, with white bytes alone around them.
func covered(s string, l []impl.Tok) bool {
	end := 0
	for _, w := range l {
		if w.At < end || strings.Trim(s[end:w.At], " \t\n") != "" {
			return false
		}
		text := tokText(w)
		if w.Kind == impl.TkNum {
			text = numbers.FindString(s[w.At:])
			if n, err := strconv.Atoi(text); err != nil || n != w.N {
				return false
			}
		}
		if !strings.HasPrefix(s[w.At:], text) {
			return false
		}
		end = w.At + len(text)
	}
	return strings.Trim(s[end:], " \t\n") == ""
}

// readAgain says that the texts of l, with one of the parts between each two, are read as l is, but for their places.
func readAgain(l []impl.Tok, part string) bool {
	texts := make([]string, len(l))
	want := slices.Clone(l)
	at := 0
	for i, w := range l {
		texts[i] = tokText(w)
		want[i].At = at
		at += len(texts[i]) + len(part)
	}
	got, k := impl.Lex(strings.Join(texts, part))
	return k == -1 && slices.Equal(got, want)
}

func drawText(d *dice) string {
	var b strings.Builder
	pieces := slices.Concat(lexWords, lexSigns, []string{
		"A", "B", "C", "D", "x", "y_2", "zz", "=", "==", "0", "7", "12", "000", "123456789", "abcdefghijklmnopqrst", " ", " ", "\n", "\t", "_", "a"})
	odd := []string{"#", "E", "!", "_", "\xff", "\x80", "\r", "\x00", "1234567890", "abcdefghijklmnopqrstu", "é"}
	for range d.below(30) {
		if d.below(150) == 0 {
			b.WriteString(odd[d.below(len(odd))])
		}
		b.WriteString(pieces[d.below(len(pieces))])
		if d.below(3) > 0 {
			b.WriteString(" ")
		}
	}
	return b.String()
}

// Promise 3: words stand one behind the other and are read again from their texts.
func TestPromise3(t *testing.T) {
	d := dice(3)
	taken, refused := 0, 0
	for range 20000 {
		s := drawText(&d)
		wantPlain(t, s)
		l, k := impl.Lex(s)
		if k != -1 {
			refused++
			continue
		}
		taken++
		if !covered(s, l) {
			t.Fatalf("the words of %q do not cover it: %v", s, l)
		}
		if !readAgain(l, " ") || !readAgain(l, "\n\t ") {
			t.Fatalf("the words of %q are not read again: %v", s, l)
		}
	}
	if taken < 5000 || refused < 2000 {
		t.Error("too few of a kind:", taken, refused)
	}
}

// What is refused is refused at a place ahead of which all is taken.
func TestPromise3UpToTheRefused(t *testing.T) {
	d := dice(33)
	for range 20000 {
		s := drawText(&d)
		_, k := impl.Lex(s)
		if k == -1 {
			continue
		}
		l, until := impl.Lex(s[:k])
		if until != -1 || !covered(s[:k], l) {
			t.Fatalf("Lex(%q) is refused at %d, and what stands ahead of that at %d", s, k, until)
		}
	}
}

func TestLexEachPairOfBytes(t *testing.T) {
	wantPlain(t, "")
	for a := range 256 {
		wantPlain(t, string([]byte{byte(a)}))
		for b := range 256 {
			wantPlain(t, string([]byte{byte(a), byte(b)}))
		}
	}
}

func TestLexAllShortTexts(t *testing.T) {
	letters := "=<A_a0 \nE\xff"
	texts := []string{""}
	for range 4 {
		var longer []string
		for _, s := range texts {
			for i := range len(letters) {
				longer = append(longer, s+letters[i:i+1])
			}
		}
		for _, s := range longer {
			wantPlain(t, s)
		}
		texts = longer
	}
}
