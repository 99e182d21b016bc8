package tests

import (
	"slices"
	"strings"
	"testing"

	"loop.example/g00689/impl"
)

var spareVar = impl.Var{Name: spareText, Val: -77}

const serialSrc = "proc p(a, b) { x = read A[a]; write A[a] = x + b; write B[x] = b; if (b < 0) { abort; } for i in 3 { write C[i] = i; } return x / b; }" +
	" proc q() { } proc r() { abort; } proc s() { return 1 % 0; }"

func serialRows() []impl.Row {
	return []impl.Row{row(0, 1, 10), row(0, 2, 20), row(1, 10, 5), row(2, 1, 7), row(4, 1, 1)}
}

func serialVars() []impl.Var {
	return []impl.Var{{Name: "a", Val: 1}, {Name: "bb", Val: 2}, {Name: "x", Val: 3}}
}

// rowCalls are all calls that answer rows, some of which refuse, and some of which answer the rows that they are given.
func rowCalls(t *testing.T) map[string]func([]impl.Row) []impl.Row {
	p := mustParse(t, serialSrc)
	put := func(k impl.Key, val int) func([]impl.Row) []impl.Row {
		return func(l []impl.Row) []impl.Row { return impl.PutRow(l, k, val) }
	}
	run := func(k int, args ...int) func([]impl.Row) []impl.Row {
		return func(l []impl.Row) []impl.Row {
			_, rows := impl.RunSerial(p, k, args, l)
			return rows
		}
	}
	return map[string]func([]impl.Row) []impl.Row{
		"PutRow ahead":             put(impl.Key{R: -1}, 9),
		"PutRow between":           put(impl.Key{T: 1, R: 3}, 9),
		"PutRow behind":            put(impl.Key{T: 4, R: 3}, 9),
		"PutRow again":             put(impl.Key{R: 2}, 9),
		"PutRow of the same":       put(impl.Key{R: 2}, 20),
		"PutRow of 0 at the front": put(impl.Key{R: 1}, 0),
		"PutRow of 0 at the end":   put(impl.Key{T: 4, R: 1}, 0),
		"PutRow of 0 for none":     put(impl.Key{T: 3}, 0),
		"PutRow of no table":       put(impl.Key{T: 5}, 1),
		"UserRows":                 impl.UserRows,
		"UserRows of users":        func(l []impl.Row) []impl.Row { return impl.UserRows(l[:len(l)-1]) },
		"RunSerial that writes":    run(0, 1, 5),
		"RunSerial that gives up":  run(0, 2, -1),
		"RunSerial that divides":   run(0, 1, 0),
		"RunSerial of nothing":     run(1),
		"RunSerial of an abort":    run(2),
		"RunSerial of no value":    run(3),
		"RunSerial that refuses":   run(4),
		"RunSerial of wrong args":  run(0, 1),
	}
}

func TestRowsWriteNowhere(t *testing.T) {
	calls := rowCalls(t)
	calls["the asking ones"] = func(l []impl.Row) []impl.Row {
		impl.RowsOk(l)
		impl.RowOf(l, impl.Key{T: 1, R: 10})
		return nil
	}
	wrong := append(serialRows(), row(0, 0, 1))
	for what, call := range calls {
		for _, want := range [][]impl.Row{serialRows(), wrong} {
			l := roomy(want, spareRow)
			call(l)
			if !sameRows(l, want) || !spareKept(l, spareRow) {
				t.Errorf("%s writes into the rows: %v", what, l)
			}
		}
	}
}

func TestRowsShareNothingWithAnArgument(t *testing.T) {
	answered := 0
	for what, call := range rowCalls(t) {
		l := roomy(serialRows(), spareRow)
		got := call(l)
		kept := slices.Clone(got)
		fill(l, impl.Row{Val: 31337})
		if !sameRows(got, kept) {
			t.Errorf("%s: the answer changes with the argument", what)
		}
		l = roomy(serialRows(), spareRow)
		got = call(l)
		fill(got, impl.Row{Val: 31337})
		if !sameRows(l, serialRows()) || !spareKept(l, spareRow) {
			t.Errorf("%s: the argument changes with the answer", what)
		}
		if again := call(l); !sameRows(again, kept) {
			t.Errorf("%s: the next answer changes with the one ahead: %v", what, again)
		}
		if len(got) > 0 {
			answered++
		}
	}
	if answered < 14 {
		t.Error("too few answered rows:", answered)
	}
}

// varCalls are all calls that answer variables, some of which refuse.
func varCalls() map[string]func([]impl.Var) []impl.Var {
	put := func(name string, val int) func([]impl.Var) []impl.Var {
		return func(l []impl.Var) []impl.Var { return impl.PutVar(l, name, val) }
	}
	return map[string]func([]impl.Var) []impl.Var{
		"PutVar ahead": put("", 9), "PutVar between": put("b", 9), "PutVar behind": put("y", 9), "PutVar again": put("bb", 9), "PutVar of the same": put("bb", 2), "PutVar of 0": put("x", 0),
	}
}

func TestVarsWriteNowhere(t *testing.T) {
	p := mustParse(t, wrongSrc)
	calls := varCalls()
	calls["the asking ones"] = func(l []impl.Var) []impl.Var {
		impl.VarsOk(l)
		impl.VarOf(l, "bb")
		for k := range p.L {
			impl.Eval(p, k, l)
		}
		return nil
	}
	wrong := append(serialVars(), impl.Var{Name: "a"})
	for what, call := range calls {
		for _, want := range [][]impl.Var{serialVars(), wrong} {
			l := roomy(want, spareVar)
			call(l)
			if !slices.Equal(l, want) || !spareKept(l, spareVar) {
				t.Errorf("%s writes into the variables: %v", what, l)
			}
		}
	}
}

func TestVarsShareNothingWithAnArgument(t *testing.T) {
	for what, call := range varCalls() {
		l := roomy(serialVars(), spareVar)
		got := call(l)
		kept := slices.Clone(got)
		if len(got) < 3 {
			t.Errorf("%s refuses", what)
		}
		fill(l, impl.Var{Name: "other", Val: 31337})
		if !slices.Equal(got, kept) {
			t.Errorf("%s: the answer changes with the argument", what)
		}
		l = roomy(serialVars(), spareVar)
		got = call(l)
		fill(got, impl.Var{Name: "other", Val: 31337})
		if !slices.Equal(l, serialVars()) || !spareKept(l, spareVar) {
			t.Errorf("%s: the argument changes with the answer", what)
		}
		if again := call(l); !slices.Equal(again, kept) {
			t.Errorf("%s: the next answer changes with the one ahead: %v", what, again)
		}
	}
}

func TestPutVarNamesAreNewMemory(t *testing.T) {
	long := strings.Repeat("n", 300)
	l := []impl.Var{{Name: strings.Clone(long[:100])}, {Name: strings.Clone(long[:200])}}
	for _, fresh := range []string{strings.Clone(long), strings.Clone(long[:200]), strings.Clone(long[:1])} {
		got := impl.PutVar(l, fresh, 1)
		for _, v := range got {
			for _, s := range []string{l[0].Name, l[1].Name, fresh} {
				if inside(v.Name, s) || inside(s, v.Name) {
					t.Errorf("a name of %d bytes shares its memory", len(v.Name))
				}
			}
		}
	}
}

// Sets and args are read alone.
func TestSerialWritesNowhere(t *testing.T) {
	good := mustParse(t, serialSrc)
	wrong := copySet(good)
	wrong.L[0].Kind = 99
	for _, want := range []impl.Set{good, wrong, {}} {
		for _, wantArgs := range [][]int{nil, {1, 5}, {2, -1}, {1, 0}, {1}, {1, 2, 3}} {
			p, args := roomySet(want), roomy(wantArgs, -77)
			for k := -1; k <= len(p.L); k++ {
				impl.RunSerial(p, k, args, serialRows())
				impl.Eval(p, k, serialVars())
			}
			if !plainSet(p, want) || !setSpareKept(p) || !slices.Equal(args, wantArgs) || !spareKept(args, -77) {
				t.Errorf("an argument is written into: %v, %v", p, args)
			}
		}
	}
}

// A run sees nothing of one ahead of it, nor of what became of its arguments.
func TestSerialKeepsNothing(t *testing.T) {
	p := mustParse(t, serialSrc)
	s := serial{p: p, args: []int{1, 5}, state: serialRows()}
	want := []impl.Row{row(0, 1, 15), row(0, 2, 20), row(1, 10, 5), row(2, 1, 1), row(2, 2, 2), row(4, 1, 1)}
	for range 3 {
		s.returns(t, 2, want...)
		s.with(1, -5).aborts(t)
		serial{p: p, k: 2, state: s.state}.aborts(t)
		serial{p: p, k: 9, state: s.state}.isRefused(t)
	}
	s.args[1], s.state[0].Val = 2, 8
	s.returns(t, 4, row(0, 1, 10), row(0, 2, 20), row(1, 8, 2), row(1, 10, 5), row(2, 1, 1), row(2, 2, 2), row(4, 1, 1))
}
