package tests

import (
	"math"
	"slices"
	"strconv"
	"strings"
	"testing"

	"loop.example/g00689/impl"
)

// varNames are told apart, and put in order, by their bytes alone.
var varNames = []string{"b", "", "ab", "a", "\xff", "B"}

// listsOf are all lists of up to n of these.
func listsOf[E any](n int, of []E) [][]E {
	all := [][]E{nil}
	for from := 0; n > 0; n-- {
		until := len(all)
		for _, l := range all[from:until] {
			for _, e := range of {
				all = append(all, append(slices.Clone(l), e))
			}
		}
		from = until
	}
	return all
}

func someVars() []impl.Var {
	var l []impl.Var
	for i, s := range varNames {
		l = append(l, impl.Var{Name: s, Val: i - 2})
	}
	return append(l, impl.Var{Name: "a", Val: 40})
}

// plainVarsOk holds each one against all behind it.
func plainVarsOk(l []impl.Var) bool {
	for i, a := range l {
		for _, b := range l[i+1:] {
			if slices.Compare([]byte(a.Name), []byte(b.Name)) >= 0 {
				return false
			}
		}
	}
	return true
}

func plainVarOf(l []impl.Var, name string) int {
	i := slices.IndexFunc(l, func(v impl.Var) bool { return v.Name == name })
	if i < 0 {
		return 0
	}
	return l[i].Val
}

func plainPutVar(l []impl.Var, name string, val int) []impl.Var {
	if !plainVarsOk(l) {
		return nil
	}
	l = slices.DeleteFunc(slices.Clone(l), func(v impl.Var) bool { return v.Name == name })
	l = append(l, impl.Var{Name: name, Val: val})
	slices.SortFunc(l, func(a, b impl.Var) int { return slices.Compare([]byte(a.Name), []byte(b.Name)) })
	return l
}

func TestOutcomeConstants(t *testing.T) {
	if impl.OcReturn != 1 || impl.OcAbort != 2 {
		t.Error(impl.OcReturn, impl.OcAbort)
	}
}

func TestVarsOk(t *testing.T) {
	for _, x := range []struct {
		names string
		want  bool
	}{
		{"", true}, {"a", true}, {"a b", true}, {"a ab b", true}, {"A a", true}, {"Z a", true}, {"10 9", true}, {"a a0", true}, {"a_ aa", true}, {"a1 a_", true}, {"$0 a", true}, {"z \xc3\xa4", true},
		{"b a", false}, {"a a", false}, {"a b b", false}, {"a a b", false}, {"a c b", false}, {"b a c", false}, {"ab a", false}, {"a Z", false}, {"9 10", false}, {"\xc3\xa4 z", false},
	} {
		var l []impl.Var
		for i, s := range strings.Fields(x.names) {
			l = append(l, impl.Var{Name: s, Val: i})
		}
		if impl.VarsOk(l) != x.want {
			t.Errorf("VarsOk of %q is not %v", x.names, x.want)
		}
	}
	if !impl.VarsOk([]impl.Var{{}, {Name: "\x00"}}) || impl.VarsOk([]impl.Var{{Name: "\x00"}, {}}) || impl.VarsOk([]impl.Var{{}, {}}) {
		t.Error("the empty name is ahead of all others, and once")
	}
}

// All lists of up to three variables.
func TestVarsOfShortLists(t *testing.T) {
	right, wrong := 0, 0
	for _, l := range listsOf(3, someVars()) {
		if impl.VarsOk(l) != plainVarsOk(l) {
			t.Fatalf("VarsOk of %v is %v", l, impl.VarsOk(l))
		}
		if plainVarsOk(l) {
			right++
		} else {
			wrong++
		}
		for _, s := range append([]string{"c", "\x00", "aa", "A"}, varNames...) {
			if got := impl.VarOf(l, s); got != plainVarOf(l, s) {
				t.Fatalf("VarOf of %v and %q is %d", l, s, got)
			}
			for _, val := range []int{0, 9, -1, math.MinInt} {
				got := impl.PutVar(l, s, val)
				if !slices.Equal(got, plainPutVar(l, s, val)) {
					t.Fatalf("PutVar of %v, %q and %d is %v", l, s, val, got)
				}
				if plainVarsOk(l) && (!impl.VarsOk(got) || impl.VarOf(got, s) != val) {
					t.Fatalf("PutVar of %v, %q and %d can't be used: %v", l, s, val, got)
				}
			}
		}
	}
	if right < 50 || wrong < 200 {
		t.Error("too few of a kind:", right, wrong)
	}
}

func TestVarOfTakesTheFirst(t *testing.T) {
	l := []impl.Var{{Name: "b", Val: 1}, {Name: "a", Val: 2}, {Name: "b", Val: 3}, {Name: "a", Val: 0}, {Name: "c"}, {Name: "c", Val: 4}}
	for s, want := range map[string]int{"a": 2, "b": 1, "c": 0, "d": 0, "": 0, "A": 0, "aa": 0} {
		if got := impl.VarOf(l, s); got != want {
			t.Errorf("VarOf %q is %d, not %d", s, got, want)
		}
	}
	if impl.VarOf(nil, "a") != 0 || impl.VarOf(nil, "") != 0 {
		t.Error("none has a value")
	}
}

// A value 0 is put like any other.
func TestPutVar(t *testing.T) {
	l := impl.PutVar(nil, "m", 5)
	l = impl.PutVar(l, "z", math.MaxInt)
	l = impl.PutVar(l, "a", 0)
	l = impl.PutVar(l, "m", 0)
	l = impl.PutVar(l, "", -3)
	want := []impl.Var{{Val: -3}, {Name: "a"}, {Name: "m"}, {Name: "z", Val: math.MaxInt}}
	if !slices.Equal(l, want) {
		t.Error(l)
	}
	for _, wrong := range [][]impl.Var{{{Name: "b"}, {Name: "a"}}, {{Name: "a"}, {Name: "a"}}, {{Name: "a"}, {Name: "c"}, {Name: "b"}}} {
		if got := impl.PutVar(wrong, "a", 1); len(got) != 0 {
			t.Errorf("PutVar of %v is %v", wrong, got)
		}
	}
}

func TestPutVarAmongMany(t *testing.T) {
	var l, want []impl.Var
	for i := range 3000 {
		v := impl.Var{Name: strconv.Itoa(100000 + i*2), Val: i}
		want = append(want, v)
		if i != 1234 {
			l = append(l, v)
		}
	}
	if got := impl.PutVar(l, strconv.Itoa(100000+1234*2), 1234); !slices.Equal(got, want) || !impl.VarsOk(got) {
		t.Error("one that is put among many is not in its place")
	}
	if got := impl.PutVar(want, strconv.Itoa(100000+1234*2), 1234); !slices.Equal(got, want) {
		t.Error("one that is put again among many is not in its place")
	}
	l[2000].Name = l[1999].Name
	if impl.VarsOk(l) || len(impl.PutVar(l, "a", 1)) != 0 {
		t.Error("two of one name among many")
	}
}
