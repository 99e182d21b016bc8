package tests

import (
	"math"
	"slices"
	"testing"

	"loop.example/g00689/impl"
)

func row(table, r, val int) impl.Row {
	return impl.Row{K: impl.Key{T: table, R: r}, Val: val}
}

func compareRows(a, b impl.Row) int {
	return slices.Compare([]int{a.K.T, a.K.R}, []int{b.K.T, b.K.R})
}

// plainRowsOk holds each one against all behind it.
func plainRowsOk(l []impl.Row) bool {
	for i, a := range l {
		if a.K.T < 0 || a.K.T > 4 || a.Val == 0 {
			return false
		}
		for _, b := range l[i+1:] {
			if compareRows(a, b) >= 0 {
				return false
			}
		}
	}
	return true
}

func plainRowOf(l []impl.Row, k impl.Key) int {
	i := slices.IndexFunc(l, func(r impl.Row) bool { return r.K == k })
	if i < 0 {
		return 0
	}
	return l[i].Val
}

func plainPutRow(l []impl.Row, k impl.Key, val int) []impl.Row {
	if !plainRowsOk(l) || k.T < 0 || k.T > 4 {
		return nil
	}
	l = slices.DeleteFunc(slices.Clone(l), func(r impl.Row) bool { return r.K == k })
	if val != 0 {
		l = append(l, impl.Row{K: k, Val: val})
	}
	slices.SortFunc(l, compareRows)
	return l
}

func plainUserRows(l []impl.Row) []impl.Row {
	if !plainRowsOk(l) {
		return nil
	}
	return slices.DeleteFunc(slices.Clone(l), func(r impl.Row) bool { return r.K.T == 4 })
}

func someRows() []impl.Row {
	return []impl.Row{row(1, 0, 5), row(0, 3, -1), row(0, -3, 2), row(4, math.MinInt, 1), row(4, 3, math.MaxInt), row(3, 3, 7),
		row(0, 3, 0), row(4, 3, 0), row(-1, 3, 4), row(5, 3, 4), row(1, 0, math.MinInt)}
}

// manyRows has values that are not 0, in all tables.
func manyRows(n int) []impl.Row {
	l := rowsOf(n)
	for i := range l {
		l[i].Val++
	}
	return l
}

func TestRowsOk(t *testing.T) {
	for what, l := range map[string][]impl.Row{
		"none":                 {},
		"one":                  {row(0, 0, 1)},
		"a value below 0":      {row(0, 0, -1)},
		"each table":           {row(0, 0, 1), row(1, 0, 1), row(2, 0, 1), row(3, 0, 1), row(4, 0, 1)},
		"keys below 0":         {row(2, math.MinInt, 1), row(2, -1, 1), row(2, 0, 1), row(2, math.MaxInt, 1)},
		"keys of two tables":   {row(0, 9, 1), row(1, -9, 1)},
		"the least value":      {row(1, 1, math.MinInt)},
		"the conflicts alone":  {row(4, 1, 1), row(4, 2, 1)},
		"more than one writes": manyRows(impl.MaxWrites + 1),
		"very many":            manyRows(100000),
	} {
		if !impl.RowsOk(l) {
			t.Error("not RowsOk:", what)
		}
	}
	for what, l := range badRows() {
		if impl.RowsOk(l) {
			t.Error("RowsOk:", what)
		}
	}
}

// badRows are the ways in which rows are not RowsOk, by name.
func badRows() map[string][]impl.Row {
	return map[string][]impl.Row{
		"a value 0":             {row(0, 0, 0)},
		"a value 0 at the end":  {row(0, 1, 1), row(0, 2, 0)},
		"a value 0 among many":  {row(0, 1, 1), row(0, 2, 0), row(0, 3, 1)},
		"table -1":              {row(-1, 0, 1)},
		"table 5":               {row(impl.Tables, 0, 1)},
		"table 5 at the end":    {row(4, 0, 1), row(5, 0, 1)},
		"the least table":       {row(math.MinInt, 0, 1)},
		"the greatest table":    {row(math.MaxInt, 0, 1)},
		"twice":                 {row(1, 1, 3), row(1, 1, 3)},
		"twice, other values":   {row(1, 1, 3), row(1, 1, 4)},
		"keys that fall":        {row(1, 1, 3), row(1, 0, 3)},
		"tables that fall":      {row(1, 0, 3), row(0, 1, 3)},
		"keys that fall later":  {row(0, 0, 1), row(0, 5, 1), row(0, 4, 1)},
		"twice later":           {row(0, 0, 1), row(0, 5, 1), row(0, 5, 1)},
		"table -1 ahead":        {row(-1, 0, 1), row(0, 0, 1)},
		"a key that falls to -": {row(0, 0, 1), row(0, -1, 1)},
	}
}

// All lists of up to three rows, right and wrong ones.
func TestRowsOfShortLists(t *testing.T) {
	keys := []impl.Key{{T: 2}, {T: 4}, {T: -1, R: -3}, {T: 5}}
	for _, r := range someRows() {
		keys = append(keys, r.K)
	}
	right, wrong := 0, 0
	for _, l := range listsOf(3, someRows()) {
		if impl.RowsOk(l) != plainRowsOk(l) {
			t.Fatalf("RowsOk of %v is %v", l, impl.RowsOk(l))
		}
		if plainRowsOk(l) {
			right++
		} else {
			wrong++
		}
		if got := impl.UserRows(l); !sameRows(got, plainUserRows(l)) {
			t.Fatalf("UserRows of %v is %v", l, got)
		}
		for _, k := range keys {
			if got := impl.RowOf(l, k); got != plainRowOf(l, k) {
				t.Fatalf("RowOf of %v and %v is %d", l, k, got)
			}
			for _, val := range []int{0, 1, math.MinInt} {
				got := impl.PutRow(l, k, val)
				if !sameRows(got, plainPutRow(l, k, val)) {
					t.Fatalf("PutRow of %v, %v and %d is %v", l, k, val, got)
				}
				if plainRowsOk(l) && k.T >= 0 && k.T < impl.Tables && (!impl.RowsOk(got) || impl.RowOf(got, k) != val) {
					t.Fatalf("PutRow of %v, %v and %d can't be used: %v", l, k, val, got)
				}
			}
		}
	}
	if right < 50 || wrong < 500 {
		t.Error("too few of a kind:", right, wrong)
	}
}

func TestPutRow(t *testing.T) {
	l := impl.PutRow(nil, impl.Key{T: 1, R: 5}, 7)
	l = impl.PutRow(l, impl.Key{T: 4, R: -9}, 1)
	l = impl.PutRow(l, impl.Key{T: 0, R: 99}, -2)
	l = impl.PutRow(l, impl.Key{T: 1, R: -5}, 3)
	l = impl.PutRow(l, impl.Key{T: 1, R: 6}, 0)
	l = impl.PutRow(l, impl.Key{T: 1, R: 5}, 8)
	if !sameRows(l, []impl.Row{row(0, 99, -2), row(1, -5, 3), row(1, 5, 8), row(4, -9, 1)}) {
		t.Error(l)
	}
	if got := impl.UserRows(l); !sameRows(got, []impl.Row{row(0, 99, -2), row(1, -5, 3), row(1, 5, 8)}) {
		t.Error(got)
	}
	for _, k := range []impl.Key{{R: 99}, {T: 1, R: -5}, {T: 1, R: 5}, {T: 4, R: -9}} {
		l = impl.PutRow(l, k, 0)
	}
	if len(l) != 0 {
		t.Error(l)
	}
}

func TestRowsWrong(t *testing.T) {
	good := []impl.Row{row(0, 1, 1), row(4, 1, 1)}
	for _, table := range noTables() {
		for _, val := range []int{0, 1} {
			if got := impl.PutRow(good, impl.Key{T: table, R: 1}, val); len(got) != 0 {
				t.Errorf("PutRow into table %d: %v", table, got)
			}
		}
		if impl.RowOf(good, impl.Key{T: table, R: 1}) != 0 {
			t.Errorf("RowOf table %d", table)
		}
	}
	for what, l := range badRows() {
		if len(impl.UserRows(l)) != 0 {
			t.Error("UserRows of", what, impl.UserRows(l))
		}
		for _, r := range append(slices.Clone(l), good...) {
			// Not even what would mend them is put into wrong ones.
			for _, val := range []int{0, 1} {
				if got := impl.PutRow(l, r.K, val); len(got) != 0 {
					t.Error("PutRow of", what, got)
				}
			}
		}
	}
}

func TestRowOfTakesTheFirst(t *testing.T) {
	l := []impl.Row{row(1, 1, 3), row(0, 1, 4), row(1, 1, 5), row(7, 1, 6), row(2, 2, 0), row(2, 2, 9)}
	for k, want := range map[impl.Key]int{{T: 1, R: 1}: 3, {T: 0, R: 1}: 4, {T: 7, R: 1}: 6, {T: 2, R: 2}: 0, {T: 3, R: 1}: 0, {T: 1, R: 2}: 0, {}: 0} {
		if got := impl.RowOf(l, k); got != want {
			t.Errorf("RowOf %v is %d, not %d", k, got, want)
		}
	}
}

// There is no greatest number of rows.
func TestPutRowAmongMany(t *testing.T) {
	all := manyRows(3000)
	k := all[1234].K
	less := slices.Delete(slices.Clone(all), 1234, 1235)
	if got := impl.PutRow(less, k, all[1234].Val); !sameRows(got, all) {
		t.Error("one that is put among many is not in its place")
	}
	if got := impl.PutRow(all, k, 0); !sameRows(got, less) {
		t.Error("one that is taken from among many")
	}
	if got := impl.PutRow(all, k, all[1234].Val); !sameRows(got, all) {
		t.Error("one that is put again among many")
	}
	if got := impl.UserRows(all); !sameRows(got, plainUserRows(all)) {
		t.Error("UserRows of many:", len(got))
	}
}
