package tests

import (
	"math"
	"testing"

	"loop.example/g00689/impl"
)

const spareRoom = 3

var (
	spareVer   = impl.Ver{At: -77, Val: -77}
	spareRow   = impl.Row{K: impl.Key{T: -77, R: -77}, Val: -77}
	spareChain = impl.Key{T: -77, R: -77}
)

// roomy is l with spare room behind it, all of it filled with spare.
func roomy[E any](l []E, spare E) []E {
	r := append(make([]E, 0, len(l)+spareRoom), l...)
	for range spareRoom {
		r = append(r, spare)
	}
	return r[:len(l)]
}

func roomyStore(s impl.Store) impl.Store {
	r := impl.Store{L: roomy(s.L, impl.Chain{K: spareChain})}
	for i := range r.L {
		r.L[i].L = roomy(r.L[i].L, spareVer)
	}
	return r
}

func spareKept[E comparable](l []E, spare E) bool {
	for _, e := range l[len(l):cap(l)] {
		if e != spare {
			return false
		}
	}
	return true
}

func storeSpareKept(s impl.Store) bool {
	for _, c := range s.L[len(s.L):cap(s.L)] {
		if c.K != spareChain || c.L != nil {
			return false
		}
	}
	for _, c := range s.L {
		if !spareKept(c.L, spareVer) {
			return false
		}
	}
	return true
}

// scribble overwrites all of s, with the spare room behind each list.
func scribble(s impl.Store) {
	for i := range s.L {
		l := s.L[i].L[:cap(s.L[i].L)]
		for j := range l {
			l[j] = impl.Ver{At: 31337, Val: 31337}
		}
	}
	all := s.L[:cap(s.L)]
	for i := range all {
		all[i] = impl.Chain{K: impl.Key{T: 31337}}
	}
}

func memoryRows() []impl.Row {
	return []impl.Row{{K: keyB, Val: 1}, {K: impl.Key{T: 2}, Val: 5}, {K: keyB, Val: 2}, {K: keyA, Val: 3}}
}

// storeCalls are all calls that answer a store, some of which refuse.
func storeCalls() map[string]func(impl.Store, []impl.Row) impl.Store {
	return map[string]func(impl.Store, []impl.Row) impl.Store{
		"Install":         func(s impl.Store, w []impl.Row) impl.Store { r, _ := impl.Install(s, 10, w); return r },
		"Install nothing": func(s impl.Store, w []impl.Row) impl.Store { r, _ := impl.Install(s, 10, w[:0]); return r },
		"Install early":   func(s impl.Store, w []impl.Row) impl.Store { r, _ := impl.Install(s, 8, w); return r },
		"Prune to 0":      func(s impl.Store, w []impl.Row) impl.Store { return impl.Prune(s, 0) },
		"Prune to 8":      func(s impl.Store, w []impl.Row) impl.Store { return impl.Prune(s, 8) },
		"Prune to none":   func(s impl.Store, w []impl.Row) impl.Store { return impl.Prune(s, -1) },
	}
}

func TestNoCallWritesIntoAnArgument(t *testing.T) {
	calls := storeCalls()
	calls["the reading ones"] = func(s impl.Store, w []impl.Row) impl.Store {
		impl.StoreOk(s)
		impl.ReadAt(s, keyA, 9)
		impl.LastAt(s, keyA)
		impl.StateAt(s, 9)
		return impl.Store{}
	}
	for name, call := range calls {
		s, w := roomyStore(sampleStore()), roomy(memoryRows(), spareRow)
		call(s, w)
		if !sameStore(s, sampleStore()) || !storeSpareKept(s) {
			t.Errorf("%s writes into the store: %v", name, s)
		}
		if !sameRows(w, memoryRows()) || !spareKept(w, spareRow) {
			t.Errorf("%s writes into the rows: %v", name, w)
		}
	}
}

func TestAnswersShareNothingWithAnArgument(t *testing.T) {
	for name, call := range storeCalls() {
		s, w := roomyStore(sampleStore()), roomy(memoryRows(), spareRow)
		got := call(s, w)
		kept := roomyStore(got)
		scribble(s)
		for i := range w {
			w[i] = impl.Row{Val: 31337}
		}
		if !sameStore(got, kept) {
			t.Errorf("%s: the answer changes with the argument", name)
		}
		s, w = roomyStore(sampleStore()), roomy(memoryRows(), spareRow)
		scribble(call(s, w))
		if !sameStore(s, sampleStore()) || !storeSpareKept(s) || !sameRows(w, memoryRows()) || !spareKept(w, spareRow) {
			t.Errorf("%s: the argument changes with the answer", name)
		}
	}
}

func TestListsOfAnAnswerShareNothing(t *testing.T) {
	for name, call := range storeCalls() {
		got := call(sampleStore(), memoryRows())
		for i := range got.L {
			kept := roomyStore(got)
			l := got.L[i].L[:cap(got.L[i].L)]
			for j := range l {
				l[j] = impl.Ver{At: 31337, Val: 31337}
			}
			for j := range got.L {
				one, other := impl.Store{L: got.L[j : j+1]}, impl.Store{L: kept.L[j : j+1]}
				if i != j && !sameStore(one, other) {
					t.Errorf("%s: chain %d changes with chain %d", name, j, i)
				}
			}
		}
	}
}

func TestStateAtIsNewEachTime(t *testing.T) {
	s := sampleStore()
	first := impl.StateAt(s, 5)
	kept := roomy(first, spareRow)
	second := impl.StateAt(s, 5)
	for i := range second {
		second[i] = impl.Row{Val: 31337}
	}
	scribble(s)
	if !sameRows(first, kept) {
		t.Fatal(first)
	}
}

// Every function answers at every argument: nothing here may panic.
func TestEveryArgumentIsAnswered(t *testing.T) {
	stores := badStores()
	stores["good"] = sampleStore()
	stores["empty"] = impl.Store{}
	numbers := []int{math.MinInt, -1, 0, 1, 4, 5, impl.MaxClock, impl.MaxClock + 1, math.MaxInt}
	for name, s := range stores {
		ok := impl.StoreOk(s)
		for _, hour := range numbers {
			for _, table := range numbers {
				k := impl.Key{T: table, R: hour}
				_, at := impl.ReadAt(s, k, hour)
				right := ok && table >= 0 && table < impl.Tables
				if (at == -1) == (right && hour >= 0 && hour <= impl.MaxClock) || (impl.LastAt(s, k) == -1) == right {
					t.Errorf("%s: hour %d, table %d", name, hour, table)
				}
				if n, is := impl.Install(s, hour, []impl.Row{{K: k, Val: 1}}); is != (len(n.L) > 0) || !impl.StoreOk(n) {
					t.Errorf("%s: Install at %d, table %d: %v", name, hour, table, n)
				}
			}
			if !impl.StoreOk(impl.Prune(s, hour)) {
				t.Errorf("%s: Prune to %d", name, hour)
			}
			impl.StateAt(s, hour)
		}
	}
}
