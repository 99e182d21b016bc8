package tests

import (
	"math"
	"testing"

	"loop.example/g00689/impl"
)

var spareEv = impl.Ev{Kind: -77, Tx: -77, K: spareChain, Val: -77, At: -77}

func roomyMgr(m impl.Mgr) impl.Mgr {
	r := impl.Mgr{S: roomyStore(m.S), Clock: m.Clock, Next: m.Next, Txs: roomy(m.Txs, impl.Tx{Id: -77}), Hist: roomy(m.Hist, spareEv)}
	for i := range r.Txs {
		r.Txs[i].W = roomy(r.Txs[i].W, spareRow)
	}
	return r
}

func mgrSpareKept(m impl.Mgr) bool {
	for _, t := range m.Txs[len(m.Txs):cap(m.Txs)] {
		if t.Id != -77 || t.Start != 0 || t.W != nil {
			return false
		}
	}
	for _, t := range m.Txs {
		if !spareKept(t.W, spareRow) {
			return false
		}
	}
	return storeSpareKept(m.S) && spareKept(m.Hist, spareEv)
}

// fill overwrites all of l, with the spare room behind it.
func fill[E any](l []E, with E) {
	all := l[:cap(l)]
	for i := range all {
		all[i] = with
	}
}

func scribbleMgr(m impl.Mgr) {
	scribble(m.S)
	for _, t := range m.Txs {
		fill(t.W, impl.Row{Val: 31337})
	}
	fill(m.Txs, impl.Tx{Id: 31337})
	fill(m.Hist, impl.Ev{Kind: 31337})
}

// mgrCalls are calls of every kind that answers a Mgr, some of which refuse.
func mgrCalls() map[string]func(impl.Mgr) impl.Mgr {
	read := func(tx int, k impl.Key) func(impl.Mgr) impl.Mgr {
		return func(m impl.Mgr) impl.Mgr { n, _, _ := impl.TxRead(m, tx, k); return n }
	}
	write := func(tx int, k impl.Key) func(impl.Mgr) impl.Mgr {
		return func(m impl.Mgr) impl.Mgr { n, _ := impl.TxWrite(m, tx, k, 99); return n }
	}
	commit := func(tx int) func(impl.Mgr) impl.Mgr {
		return func(m impl.Mgr) impl.Mgr { n, _ := impl.Commit(m, tx); return n }
	}
	abort := func(tx int) func(impl.Mgr) impl.Mgr {
		return func(m impl.Mgr) impl.Mgr { n, _ := impl.AbortTx(m, tx); return n }
	}
	return map[string]func(impl.Mgr) impl.Mgr{
		"Begin":                 func(m impl.Mgr) impl.Mgr { n, _, _ := impl.Begin(m); return n },
		"TxRead of its own":     read(2, keyA),
		"TxRead":                read(4, keyA),
		"TxRead of none":        read(3, keyA),
		"TxWrite ahead":         write(4, keyA),
		"TxWrite again":         write(4, keyB),
		"TxWrite behind":        write(4, keyD),
		"TxWrite first":         write(7, keyD),
		"TxWrite of no table":   write(4, impl.Key{T: -1}),
		"Commit":                commit(4),
		"Commit of nothing":     commit(7),
		"Commit of the outrun":  commit(2),
		"AbortTx of the first":  abort(2),
		"AbortTx of the second": abort(4),
		"AbortTx of the last":   abort(7),
		"AbortTx of none":       abort(8),
	}
}

func TestNoCallWritesIntoAMgr(t *testing.T) {
	calls := mgrCalls()
	calls["the asking ones"] = func(m impl.Mgr) impl.Mgr {
		impl.MgrOk(m)
		impl.Lost(m, 2)
		impl.Lost(m, 4)
		return impl.Mgr{}
	}
	for name, call := range calls {
		for what, bad := range map[string]bool{"a sample": false, "a bad one": true} {
			m, want := roomyMgr(sampleMgr()), sampleMgr()
			if bad {
				m.Next, want.Next = 0, 0
			}
			call(m)
			if !sameMgr(m, want) || !mgrSpareKept(m) {
				t.Errorf("%s writes into %s: %v", name, what, m)
			}
		}
	}
}

func TestMgrsShareNothingWithAnArgument(t *testing.T) {
	for name, call := range mgrCalls() {
		m := roomyMgr(sampleMgr())
		got := call(m)
		kept := roomyMgr(got)
		scribbleMgr(m)
		if !sameMgr(got, kept) {
			t.Errorf("%s: the answer changes with the argument", name)
		}
		m = roomyMgr(sampleMgr())
		scribbleMgr(call(m))
		if !sameMgr(m, sampleMgr()) || !mgrSpareKept(m) {
			t.Errorf("%s: the argument changes with the answer", name)
		}
	}
}

func TestListsOfAMgrShareNothing(t *testing.T) {
	for name, call := range mgrCalls() {
		got := call(roomyMgr(sampleMgr()))
		kept := roomyMgr(got)
		for i := range got.Txs {
			fill(got.Txs[i].W, impl.Row{Val: 31337})
			got.Txs[i].W = kept.Txs[i].W
			if !sameMgr(got, kept) {
				t.Errorf("%s: something changes with the rows of transaction %d", name, i)
			}
		}
		for i := range got.S.L {
			fill(got.S.L[i].L, impl.Ver{At: 31337})
			got.S.L[i].L = kept.S.L[i].L
			if !sameMgr(got, kept) {
				t.Errorf("%s: something changes with chain %d", name, i)
			}
		}
	}
}

// Each answer is new: what a refused or an asked one leaves behind is not seen by the next.
func TestMgrsAreNewEachTime(t *testing.T) {
	for name, call := range mgrCalls() {
		m := sampleMgr()
		first := call(m)
		kept := roomyMgr(first)
		second := call(m)
		if !sameMgr(first, second) {
			t.Errorf("%s: two calls answer otherwise", name)
		}
		scribbleMgr(second)
		if !sameMgr(first, kept) {
			t.Errorf("%s: two answers share memory", name)
		}
	}
}

// Every function answers at every argument: nothing here may panic, and what is answered may be used again.
func TestEveryMgrIsAnswered(t *testing.T) {
	mgrs := badMgrs()
	for name, m := range goodMgrs() {
		mgrs[name] = m
	}
	numbers := []int{math.MinInt, -1, 0, 1, 2, 4, 7, impl.MaxClock, math.MaxInt}
	for name, m := range mgrs {
		ok := impl.MgrOk(m)
		for _, tx := range numbers {
			for _, table := range numbers {
				for what, call := range txCalls(impl.Key{T: table, R: tx}) {
					n, _, code := call(m, tx)
					if !ok && code != impl.TmBad || impl.MgrOk(n) != (code == impl.TmOk) {
						t.Errorf("%s: %s of %d, table %d: code %d", name, what, tx, table, code)
					}
				}
			}
			if impl.Lost(m, tx) && !ok {
				t.Errorf("%s: %d is lost", name, tx)
			}
		}
		if n, _, code := impl.Begin(m); impl.MgrOk(n) != (code == impl.TmOk) {
			t.Errorf("%s: Begin: code %d", name, code)
		}
	}
}
