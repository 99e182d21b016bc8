package tests

import (
	"math"
	"testing"

	"loop.example/g00689/impl"
)

var (
	keyA = impl.Key{T: 0, R: 2}
	keyB = impl.Key{T: 1, R: -7}
	keyC = impl.Key{T: 1, R: 7}
	keyD = impl.Key{T: 4, R: math.MinInt}
)

// sampleStore has a version at hour 1, one at MaxClock, a value 0 and neighbouring hours.
func sampleStore() impl.Store {
	return impl.Store{L: []impl.Chain{
		{K: keyA, L: []impl.Ver{{At: 1, Val: 11}, {At: 2, Val: 12}, {At: 9, Val: 13}}},
		{K: keyB, L: []impl.Ver{{At: 5, Val: -4}, {At: 8, Val: 0}}},
		{K: keyC, L: []impl.Ver{{At: 5, Val: math.MaxInt}}},
		{K: keyD, L: []impl.Ver{{At: impl.MaxClock, Val: 3}}},
	}}
}

func chainOf(k impl.Key, n int) impl.Chain {
	c := impl.Chain{K: k}
	for i := range n {
		c.L = append(c.L, impl.Ver{At: i + 1, Val: i + 100})
	}
	return c
}

func storeOfChains(n int) impl.Store {
	s := impl.Store{}
	for i := range n {
		s.L = append(s.L, chainOf(impl.Key{T: i % 200 / 40, R: i}, 1))
	}
	return s
}

// badStores are the ways in which a store is not StoreOk, by name.
func badStores() map[string]impl.Store {
	one := func(k impl.Key, l ...impl.Ver) impl.Store {
		return impl.Store{L: []impl.Chain{chainOf(impl.Key{R: -1}, 2), {K: k, L: l}}}
	}
	many := storeOfChains(impl.MaxChains)
	many.L = append(many.L, chainOf(impl.Key{T: 4, R: 999}, 1))
	return map[string]impl.Store{
		"a chain without versions": one(keyA),
		"hour 0":                   one(keyA, impl.Ver{At: 0, Val: 1}),
		"an hour below 0":          one(keyA, impl.Ver{At: -1, Val: 1}),
		"an hour past MaxClock":    one(keyA, impl.Ver{At: impl.MaxClock + 1, Val: 1}),
		"a later one past it":      one(keyA, impl.Ver{At: 1}, impl.Ver{At: impl.MaxClock + 1}),
		"two hours the same":       one(keyA, impl.Ver{At: 3, Val: 1}, impl.Ver{At: 3, Val: 1}),
		"hours that fall":          one(keyA, impl.Ver{At: 3, Val: 1}, impl.Ver{At: 4}, impl.Ver{At: 2}),
		"table 5":                  one(impl.Key{T: impl.Tables}, impl.Ver{At: 1}),
		"table -1":                 {L: []impl.Chain{chainOf(impl.Key{T: -1}, 1)}},
		"two keys the same":        {L: []impl.Chain{chainOf(keyA, 1), chainOf(keyA, 1)}},
		"rows that fall":           {L: []impl.Chain{chainOf(keyC, 1), chainOf(keyB, 1)}},
		"tables that fall":         {L: []impl.Chain{chainOf(keyB, 1), chainOf(keyA, 1)}},
		"MaxVers and one":          {L: []impl.Chain{chainOf(keyA, impl.MaxVers+1)}},
		"MaxChains and one":        many,
	}
}

func noHours() []int {
	return []int{-1, impl.MaxClock + 1, math.MinInt, math.MaxInt}
}

func noTables() []int {
	return []int{-1, impl.Tables, math.MinInt, math.MaxInt}
}

func sameStore(a, b impl.Store) bool {
	if len(a.L) != len(b.L) {
		return false
	}
	for i := range a.L {
		if a.L[i].K != b.L[i].K || len(a.L[i].L) != len(b.L[i].L) {
			return false
		}
		for j := range a.L[i].L {
			if a.L[i].L[j] != b.L[i].L[j] {
				return false
			}
		}
	}
	return true
}

func sameRows(a, b []impl.Row) bool {
	if len(a) != len(b) {
		return false
	}
	for i := range a {
		if a[i] != b[i] {
			return false
		}
	}
	return true
}

func mustInstall(t *testing.T, s impl.Store, hour int, w ...impl.Row) impl.Store {
	t.Helper()
	n, ok := impl.Install(s, hour, w)
	if !ok {
		t.Fatalf("Install refuses hour %d, %v", hour, w)
	}
	return n
}

func mustRefuse(t *testing.T, s impl.Store, hour int, w ...impl.Row) {
	t.Helper()
	if n, ok := impl.Install(s, hour, w); ok || len(n.L) != 0 {
		t.Fatalf("Install takes hour %d, %v: %v", hour, w, n)
	}
}

func TestLimits(t *testing.T) {
	if impl.MaxChains != 200 || impl.MaxVers != 200 || impl.MaxClock != 1000000 || impl.Tables != 5 {
		t.Fatal("a limit is not the document's")
	}
}

func TestKeyLess(t *testing.T) {
	ascending := []impl.Key{
		{T: math.MinInt, R: math.MaxInt}, {T: -1, R: 0}, {T: 0, R: math.MinInt}, {T: 0, R: -1}, {T: 0, R: 0},
		{T: 0, R: math.MaxInt}, {T: 1, R: math.MinInt}, {T: 1, R: 3}, {T: 4, R: 2}, {T: math.MaxInt, R: 0},
	}
	for i, a := range ascending {
		for j, b := range ascending {
			if impl.KeyLess(a, b) != (i < j) {
				t.Errorf("KeyLess(%v, %v) is not %v", a, b, i < j)
			}
		}
	}
}

func TestStoreOk(t *testing.T) {
	good := map[string]impl.Store{
		"nothing":      {},
		"an empty one": {L: []impl.Chain{}},
		"a sample":     sampleStore(),
		"MaxChains":    storeOfChains(impl.MaxChains),
		"MaxVers":      {L: []impl.Chain{chainOf(keyA, impl.MaxVers), chainOf(keyD, impl.MaxVers)}},
	}
	for name, s := range good {
		if !impl.StoreOk(s) {
			t.Errorf("%s: refused", name)
		}
	}
	for name, s := range badStores() {
		if impl.StoreOk(s) {
			t.Errorf("%s: taken", name)
		}
	}
}

func TestReadAt(t *testing.T) {
	s := sampleStore()
	for _, x := range []struct {
		k             impl.Key
		hour, val, at int
	}{
		{keyA, 0, 0, 0}, {keyA, 1, 11, 1}, {keyA, 2, 12, 2}, {keyA, 3, 12, 2}, {keyA, 8, 12, 2}, {keyA, 9, 13, 9},
		{keyA, impl.MaxClock, 13, 9}, {keyB, 4, 0, 0}, {keyB, 5, -4, 5}, {keyB, 7, -4, 5}, {keyB, 8, 0, 8},
		{keyB, 10, 0, 8}, {keyC, 5, math.MaxInt, 5}, {keyD, impl.MaxClock - 1, 0, 0}, {keyD, impl.MaxClock, 3, impl.MaxClock},
		{impl.Key{T: 0, R: 7}, 9, 0, 0}, {impl.Key{T: 2, R: 7}, impl.MaxClock, 0, 0}, {impl.Key{T: 4, R: 0}, 0, 0, 0},
	} {
		if val, at := impl.ReadAt(s, x.k, x.hour); val != x.val || at != x.at {
			t.Errorf("ReadAt(%v, %d) is %d, %d, not %d, %d", x.k, x.hour, val, at, x.val, x.at)
		}
	}
	if val, at := impl.ReadAt(impl.Store{}, keyA, 0); val != 0 || at != 0 {
		t.Error("the empty store", val, at)
	}
}

func TestReadAtWrong(t *testing.T) {
	none := func(name string, s impl.Store, k impl.Key, hour int) {
		if val, at := impl.ReadAt(s, k, hour); val != 0 || at != -1 {
			t.Errorf("%s: %d, %d, not 0, -1", name, val, at)
		}
	}
	for name, s := range badStores() {
		none(name, s, impl.Key{R: -1}, 9)
	}
	for _, hour := range noHours() {
		none("no hour", sampleStore(), keyA, hour)
	}
	for _, table := range noTables() {
		none("no table", sampleStore(), impl.Key{T: table, R: 2}, 9)
	}
}

func TestLastAt(t *testing.T) {
	s := sampleStore()
	for k, at := range map[impl.Key]int{keyA: 9, keyB: 8, keyC: 5, keyD: impl.MaxClock, {T: 3, R: 7}: 0, {T: 0, R: 1}: 0} {
		if got := impl.LastAt(s, k); got != at {
			t.Errorf("LastAt(%v) is %d, not %d", k, got, at)
		}
	}
	if impl.LastAt(impl.Store{}, keyA) != 0 {
		t.Error("the empty store")
	}
	for name, bad := range badStores() {
		if got := impl.LastAt(bad, impl.Key{R: -1}); got != -1 {
			t.Errorf("%s: %d, not -1", name, got)
		}
	}
	for _, table := range noTables() {
		if got := impl.LastAt(s, impl.Key{T: table, R: 2}); got != -1 {
			t.Errorf("table %d: %d, not -1", table, got)
		}
	}
}

func TestInstall(t *testing.T) {
	first := impl.Key{T: 0, R: 1}
	between := impl.Key{T: 1, R: 0}
	got := mustInstall(t, sampleStore(), 10,
		impl.Row{K: between, Val: 1}, impl.Row{K: keyB, Val: 6}, impl.Row{K: first, Val: 0}, impl.Row{K: between, Val: 2},
		impl.Row{K: keyA, Val: 8}, impl.Row{K: between, Val: 3})
	s := sampleStore()
	want := impl.Store{L: []impl.Chain{
		{K: first, L: []impl.Ver{{At: 10, Val: 0}}},
		{K: keyA, L: append(s.L[0].L, impl.Ver{At: 10, Val: 8})},
		{K: keyB, L: append(s.L[1].L, impl.Ver{At: 10, Val: 6})},
		{K: between, L: []impl.Ver{{At: 10, Val: 3}}},
		s.L[2], s.L[3],
	}}
	if !sameStore(got, want) {
		t.Fatalf("%v\nis not\n%v", got, want)
	}
}

func TestInstallNothing(t *testing.T) {
	if got := mustInstall(t, sampleStore(), 1); !sameStore(got, sampleStore()) {
		t.Error("no rows change the store", got)
	}
	if got := mustInstall(t, impl.Store{}, impl.MaxClock); len(got.L) != 0 {
		t.Error("no rows make chains", got)
	}
	for _, hour := range append(noHours(), 0) {
		mustRefuse(t, sampleStore(), hour)
	}
}

func TestInstallHours(t *testing.T) {
	s := sampleStore()
	mustInstall(t, s, 10, impl.Row{K: keyA})
	mustRefuse(t, s, 9, impl.Row{K: keyA})
	mustRefuse(t, s, 8, impl.Row{K: keyA})
	mustInstall(t, s, 6, impl.Row{K: keyC})
	mustRefuse(t, s, 6, impl.Row{K: keyC}, impl.Row{K: keyB})
	mustRefuse(t, s, impl.MaxClock, impl.Row{K: keyD})
	mustInstall(t, s, impl.MaxClock, impl.Row{K: keyA, Val: 1}, impl.Row{K: keyC})
	mustInstall(t, impl.Store{}, 1, impl.Row{K: keyA, Val: 1}, impl.Row{K: keyA, Val: 2})
	for _, hour := range append(noHours(), 0) {
		mustRefuse(t, impl.Store{}, hour, impl.Row{K: keyA, Val: 1})
	}
}

func TestInstallWrong(t *testing.T) {
	for name, s := range badStores() {
		if n, ok := impl.Install(s, 500, []impl.Row{{K: impl.Key{R: -2}, Val: 1}}); ok || len(n.L) != 0 {
			t.Errorf("%s: taken", name)
		}
	}
	for _, table := range noTables() {
		mustRefuse(t, sampleStore(), 10, impl.Row{K: keyA}, impl.Row{K: impl.Key{T: table, R: 2}}, impl.Row{K: keyA})
	}
}

func TestInstallChainLimit(t *testing.T) {
	full := storeOfChains(impl.MaxChains)
	short := storeOfChains(impl.MaxChains - 1)
	fresh, other := impl.Key{T: 4, R: 5000}, impl.Key{T: 4, R: 5001}
	if s := mustInstall(t, short, 2, impl.Row{K: fresh}, impl.Row{K: fresh, Val: 1}); len(s.L) != impl.MaxChains {
		t.Error("MaxChains is not met:", len(s.L))
	}
	mustRefuse(t, short, 2, impl.Row{K: fresh}, impl.Row{K: other})
	mustRefuse(t, full, 2, impl.Row{K: fresh})
	var all []impl.Row
	for _, c := range full.L {
		all = append(all, impl.Row{K: c.K, Val: 4})
	}
	if s := mustInstall(t, full, 2, all...); len(s.L) != impl.MaxChains || !impl.StoreOk(s) {
		t.Error("all chains take a version", len(s.L))
	}
	if s := mustInstall(t, impl.Store{}, 2, all...); len(s.L) != impl.MaxChains || !impl.StoreOk(s) {
		t.Error("MaxChains at once", len(s.L))
	}
	mustRefuse(t, impl.Store{}, 2, append(all, impl.Row{K: fresh})...)
}

func TestInstallVersionLimit(t *testing.T) {
	short := impl.Store{L: []impl.Chain{chainOf(keyA, impl.MaxVers-1), chainOf(keyB, 1)}}
	full := mustInstall(t, short, 900, impl.Row{K: keyA, Val: 1}, impl.Row{K: keyA, Val: 2})
	if len(full.L[0].L) != impl.MaxVers || !impl.StoreOk(full) {
		t.Fatal("MaxVers is not met:", len(full.L[0].L))
	}
	mustRefuse(t, full, 901, impl.Row{K: keyA, Val: 1})
	mustRefuse(t, full, 901, impl.Row{K: keyB, Val: 1}, impl.Row{K: keyA, Val: 1})
	mustInstall(t, full, 901, impl.Row{K: keyB, Val: 1})
}

func TestPrune(t *testing.T) {
	// How many versions of each chain of the sample are taken away.
	for hour, gone := range map[int][4]int{
		0: {0, 0, 0, 0}, 1: {0, 0, 0, 0}, 2: {1, 0, 0, 0}, 3: {1, 0, 0, 0}, 5: {1, 0, 0, 0},
		7: {1, 0, 0, 0}, 8: {1, 1, 0, 0}, 9: {2, 1, 0, 0}, impl.MaxClock: {2, 1, 0, 0},
	} {
		want := sampleStore()
		for i := range want.L {
			want.L[i].L = want.L[i].L[gone[i]:]
		}
		if got := impl.Prune(sampleStore(), hour); !sameStore(got, want) {
			t.Errorf("hour %d: %v\nis not\n%v", hour, got, want)
		}
	}
	full := impl.Store{L: []impl.Chain{chainOf(keyA, impl.MaxVers)}}
	if got := impl.Prune(full, impl.MaxVers); len(got.L) != 1 || len(got.L[0].L) != 1 || got.L[0].L[0].At != impl.MaxVers {
		t.Error("a full chain", got)
	}
	if got := impl.Prune(impl.Store{}, 3); len(got.L) != 0 {
		t.Error("the empty store", got)
	}
}

func TestPruneWrong(t *testing.T) {
	for name, s := range badStores() {
		if got := impl.Prune(s, 9); len(got.L) != 0 {
			t.Errorf("%s: %v", name, got)
		}
	}
	for _, hour := range noHours() {
		if got := impl.Prune(sampleStore(), hour); len(got.L) != 0 {
			t.Errorf("hour %d: %v", hour, got)
		}
	}
}

func TestStateAt(t *testing.T) {
	a := func(val int) impl.Row { return impl.Row{K: keyA, Val: val} }
	b, c, d := impl.Row{K: keyB, Val: -4}, impl.Row{K: keyC, Val: math.MaxInt}, impl.Row{K: keyD, Val: 3}
	for hour, want := range map[int][]impl.Row{
		0: {}, 1: {a(11)}, 2: {a(12)}, 4: {a(12)}, 5: {a(12), b, c}, 7: {a(12), b, c}, 8: {a(12), c},
		9: {a(13), c}, impl.MaxClock - 1: {a(13), c}, impl.MaxClock: {a(13), c, d},
	} {
		if got := impl.StateAt(sampleStore(), hour); !sameRows(got, want) {
			t.Errorf("hour %d: %v, not %v", hour, got, want)
		}
	}
	if got := impl.StateAt(storeOfChains(impl.MaxChains), 1); len(got) != impl.MaxChains {
		t.Error("MaxChains rows:", len(got))
	}
}

func TestStateAtWrong(t *testing.T) {
	for name, s := range badStores() {
		if got := impl.StateAt(s, 9); len(got) != 0 {
			t.Errorf("%s: %v", name, got)
		}
	}
	for _, hour := range noHours() {
		if got := impl.StateAt(sampleStore(), hour); len(got) != 0 {
			t.Errorf("hour %d: %v", hour, got)
		}
	}
}
