package tests

import (
	"math"
	"testing"

	"loop.example/g00689/impl"
)

// sampleMgr has three transactions: 2 is older than a version of what it wrote, 4 is not, 7 has written nothing.
func sampleMgr() impl.Mgr {
	return impl.Mgr{
		S: impl.Store{L: []impl.Chain{
			{K: keyA, L: []impl.Ver{{At: 2, Val: 20}, {At: 5, Val: 50}, {At: 8, Val: 80}, {At: 9, Val: 90}}},
			{K: keyB, L: []impl.Ver{{At: 1, Val: -4}, {At: 3, Val: 0}, {At: 6, Val: 60}}},
			{K: keyD, L: []impl.Ver{{At: 9, Val: math.MinInt}}},
		}},
		Clock: 11,
		Next:  9,
		Txs: []impl.Tx{
			{Id: 2, Start: 4, W: []impl.Row{{K: keyA, Val: 21}, {K: keyC, Val: 22}}},
			{Id: 4, Start: 7, W: []impl.Row{{K: keyB, Val: 41}, {K: keyC, Val: 0}}},
			{Id: 7, Start: 10},
		},
		Hist: histOf(5),
	}
}

// histOf is n events; what they tell doesn't matter to a Mgr.
func histOf(n int) []impl.Ev {
	l := make([]impl.Ev, n)
	for i := range l {
		l[i] = impl.Ev{Kind: i%5 + 1, Tx: i, K: impl.Key{T: -i, R: i}, Val: -i, At: 2 * i}
	}
	return l
}

func mgrWithHist(n int) impl.Mgr {
	m := sampleMgr()
	m.Hist = histOf(n)
	return m
}

func mgrAt(clock int) impl.Mgr {
	m := sampleMgr()
	m.Clock = clock
	return m
}

func txsOf(n int) []impl.Tx {
	var l []impl.Tx
	for i := range n {
		l = append(l, impl.Tx{Id: i + 1, Start: i})
	}
	return l
}

func rowsOf(n int) []impl.Row {
	var w []impl.Row
	for i := range n {
		w = append(w, impl.Row{K: impl.Key{T: i * impl.Tables / n, R: 2 * i}, Val: i})
	}
	return w
}

func mgrWithWrites(n int) impl.Mgr {
	m := sampleMgr()
	m.Txs[2].W = rowsOf(n)
	return m
}

func changedMgr(change func(m *impl.Mgr)) impl.Mgr {
	m := sampleMgr()
	change(&m)
	return m
}

// goodMgrs are Mgrs that meet a limit of MgrOk exactly, by name.
func goodMgrs() map[string]impl.Mgr {
	return map[string]impl.Mgr{
		"a new one":           impl.MgrNew(),
		"a sample":            sampleMgr(),
		"Clock at a version":  mgrAt(10),
		"Clock at MaxClock":   mgrAt(impl.MaxClock),
		"Next at MaxClock":    changedMgr(func(m *impl.Mgr) { m.Next = impl.MaxClock }),
		"an Id of Next - 1":   changedMgr(func(m *impl.Mgr) { m.Next = 8 }),
		"an Id of 1":          changedMgr(func(m *impl.Mgr) { m.Txs[0].Id = 1 }),
		"a Start of 0":        changedMgr(func(m *impl.Mgr) { m.Txs[2].Start = 0 }),
		"a Start of Clock":    changedMgr(func(m *impl.Mgr) { m.Txs[0].Start = 11 }),
		"MaxTxs":              changedMgr(func(m *impl.Mgr) { m.Txs = txsOf(impl.MaxTxs) }),
		"MaxWrites":           mgrWithWrites(impl.MaxWrites),
		"MaxHist":             mgrWithHist(impl.MaxHist),
		"a version at Clock":  {S: impl.Store{L: []impl.Chain{chainOf(keyA, 5)}}, Clock: 5, Next: 1},
		"versions at the end": {S: sampleStore(), Clock: impl.MaxClock, Next: impl.MaxClock},
	}
}

// badMgrs are the ways in which a Mgr is not MgrOk, by name.
func badMgrs() map[string]impl.Mgr {
	bad := map[string]impl.Mgr{
		"the zero value":           {},
		"Clock ahead of versions":  changedMgr(func(m *impl.Mgr) { m.Clock, m.Txs[2].Start = 8, 8 }),
		"Clock ahead of the first": {S: impl.Store{L: []impl.Chain{chainOf(keyA, 5), chainOf(keyB, 4)}}, Clock: 4, Next: 1},
		"Clock ahead of the last":  {S: impl.Store{L: []impl.Chain{chainOf(keyA, 4), chainOf(keyB, 5)}}, Clock: 4, Next: 1},
		"Clock below 0":            {Clock: -1, Next: 1},
		"Clock past MaxClock":      mgrAt(impl.MaxClock + 1),
		"Clock far past it":        mgrAt(math.MaxInt),
		"Next 0":                   {Next: 0, Clock: 3},
		"Next below 0":             {Next: math.MinInt},
		"Next past MaxClock":       changedMgr(func(m *impl.Mgr) { m.Next = impl.MaxClock + 1 }),
		"an Id of Next":            changedMgr(func(m *impl.Mgr) { m.Next = 7 }),
		"an Id of 0":               changedMgr(func(m *impl.Mgr) { m.Txs[0].Id = 0 }),
		"an Id below 0":            changedMgr(func(m *impl.Mgr) { m.Txs[0].Id = -1 }),
		"two Ids the same":         changedMgr(func(m *impl.Mgr) { m.Txs[1].Id = 7 }),
		"Ids that fall":            changedMgr(func(m *impl.Mgr) { m.Txs[0].Id = 5 }),
		"a Start below 0":          changedMgr(func(m *impl.Mgr) { m.Txs[1].Start = -1 }),
		"a Start past Clock":       changedMgr(func(m *impl.Mgr) { m.Txs[1].Start = 12 }),
		"a W with two keys alike":  changedMgr(func(m *impl.Mgr) { m.Txs[0].W[1].K = keyA }),
		"a W with keys that fall":  changedMgr(func(m *impl.Mgr) { m.Txs[1].W[1].K = keyA }),
		"a W with table -1":        changedMgr(func(m *impl.Mgr) { m.Txs[0].W[0].K.T = -1 }),
		"a W with table 5":         changedMgr(func(m *impl.Mgr) { m.Txs[0].W[1].K.T = impl.Tables }),
		"MaxTxs and one":           changedMgr(func(m *impl.Mgr) { m.Next, m.Txs = 20, txsOf(impl.MaxTxs+1) }),
		"MaxWrites and one":        mgrWithWrites(impl.MaxWrites + 1),
		"MaxHist and one":          mgrWithHist(impl.MaxHist + 1),
	}
	for name, s := range badStores() {
		bad["a store with "+name] = impl.Mgr{S: s, Clock: impl.MaxClock, Next: 9, Txs: []impl.Tx{{Id: 7}}}
	}
	return bad
}

func sameEvs(a, b []impl.Ev) bool {
	if len(a) != len(b) {
		return false
	}
	for i := range a {
		if a[i] != b[i] {
			return false
		}
	}
	return true
}

func sameTxs(a, b []impl.Tx) bool {
	if len(a) != len(b) {
		return false
	}
	for i := range a {
		if a[i].Id != b[i].Id || a[i].Start != b[i].Start || !sameRows(a[i].W, b[i].W) {
			return false
		}
	}
	return true
}

func sameMgr(a, b impl.Mgr) bool {
	return sameStore(a.S, b.S) && a.Clock == b.Clock && a.Next == b.Next && sameTxs(a.Txs, b.Txs) && sameEvs(a.Hist, b.Hist)
}

func wantMgr(t *testing.T, what string, got, want impl.Mgr) {
	t.Helper()
	if !sameMgr(got, want) {
		t.Errorf("%s:\n%v\nis not\n%v", what, got, want)
	}
}

// txCalls are all calls with a transaction's number; each answers what they answer, with 0 where they have no value.
func txCalls(k impl.Key) map[string]func(m impl.Mgr, tx int) (impl.Mgr, int, int) {
	return map[string]func(m impl.Mgr, tx int) (impl.Mgr, int, int){
		"TxRead": func(m impl.Mgr, tx int) (impl.Mgr, int, int) { return impl.TxRead(m, tx, k) },
		"TxWrite": func(m impl.Mgr, tx int) (impl.Mgr, int, int) {
			n, code := impl.TxWrite(m, tx, k, 5)
			return n, 0, code
		},
		"Commit": func(m impl.Mgr, tx int) (impl.Mgr, int, int) {
			n, code := impl.Commit(m, tx)
			return n, 0, code
		},
		"AbortTx": func(m impl.Mgr, tx int) (impl.Mgr, int, int) {
			n, code := impl.AbortTx(m, tx)
			return n, 0, code
		},
	}
}

func wantCode(t *testing.T, what string, m impl.Mgr, val, got, want int) {
	t.Helper()
	if got != want {
		t.Errorf("%s: code %d, not %d", what, got, want)
	}
	if want != impl.TmOk && (val != 0 || !sameMgr(m, impl.Mgr{})) {
		t.Errorf("%s: beside the code stand %d and %v", what, val, m)
	}
}

func wantBegin(t *testing.T, what string, m impl.Mgr, want int) {
	t.Helper()
	n, tx, code := impl.Begin(m)
	wantCode(t, what+": Begin", n, tx, code, want)
}

func wantRead(t *testing.T, what string, m impl.Mgr, tx int, k impl.Key, want int) {
	t.Helper()
	n, val, code := impl.TxRead(m, tx, k)
	wantCode(t, what+": TxRead", n, val, code, want)
}

func wantWrite(t *testing.T, what string, m impl.Mgr, tx int, k impl.Key, want int) {
	t.Helper()
	n, code := impl.TxWrite(m, tx, k, 5)
	wantCode(t, what+": TxWrite", n, 0, code, want)
}

func wantCommit(t *testing.T, what string, m impl.Mgr, tx, want int) {
	t.Helper()
	n, code := impl.Commit(m, tx)
	wantCode(t, what+": Commit", n, 0, code, want)
}

func wantAbort(t *testing.T, what string, m impl.Mgr, tx, want int) {
	t.Helper()
	n, code := impl.AbortTx(m, tx)
	wantCode(t, what+": AbortTx", n, 0, code, want)
}

func TestTransactionConstants(t *testing.T) {
	if impl.MaxTxs != 8 || impl.MaxHist != 3000 || impl.MaxWrites != 60 {
		t.Error("a limit is not the document's")
	}
	if impl.EvBegin != 1 || impl.EvRead != 2 || impl.EvWrite != 3 || impl.EvCommit != 4 || impl.EvAbort != 5 {
		t.Error("a kind is not the document's")
	}
	if impl.TmOk != 0 || impl.TmBad != 1 || impl.TmFull != 2 || impl.TmLost != 3 {
		t.Error("a code is not the document's")
	}
}

func TestMgrOk(t *testing.T) {
	for name, m := range goodMgrs() {
		if !impl.MgrOk(m) {
			t.Errorf("%s: refused", name)
		}
	}
	for name, m := range badMgrs() {
		if impl.MgrOk(m) {
			t.Errorf("%s: taken", name)
		}
	}
}

func TestMgrNew(t *testing.T) {
	wantMgr(t, "MgrNew", impl.MgrNew(), impl.Mgr{Next: 1})
}

func TestBegin(t *testing.T) {
	m, tx, code := impl.Begin(sampleMgr())
	want := sampleMgr()
	want.Clock, want.Next = 12, 10
	want.Txs = append(want.Txs, impl.Tx{Id: 9, Start: 12})
	want.Hist = append(want.Hist, impl.Ev{Kind: impl.EvBegin, Tx: 9, At: 12})
	if tx != 9 || code != impl.TmOk {
		t.Error(tx, code)
	}
	wantMgr(t, "Begin", m, want)
}

func TestBeginLimits(t *testing.T) {
	txs := func(n int) impl.Mgr { return changedMgr(func(m *impl.Mgr) { m.Txs = txsOf(n) }) }
	wantBegin(t, "MaxTxs - 1 transactions", txs(impl.MaxTxs-1), impl.TmOk)
	wantBegin(t, "MaxTxs transactions", txs(impl.MaxTxs), impl.TmFull)
	wantBegin(t, "Clock at MaxClock - 2", mgrAt(impl.MaxClock-2), impl.TmOk)
	wantBegin(t, "Clock at MaxClock - 1", mgrAt(impl.MaxClock-1), impl.TmFull)
	wantBegin(t, "Clock at MaxClock", mgrAt(impl.MaxClock), impl.TmFull)
	next := func(n int) impl.Mgr { return changedMgr(func(m *impl.Mgr) { m.Next = n }) }
	wantBegin(t, "Next at MaxClock - 1", next(impl.MaxClock-1), impl.TmOk)
	wantBegin(t, "Next at MaxClock", next(impl.MaxClock), impl.TmFull)
	wantBegin(t, "MaxHist - 2 events", mgrWithHist(impl.MaxHist-2), impl.TmOk)
	wantBegin(t, "MaxHist - 1 events", mgrWithHist(impl.MaxHist-1), impl.TmFull)
	wantBegin(t, "MaxHist events", mgrWithHist(impl.MaxHist), impl.TmFull)
	last, tx, _ := impl.Begin(next(impl.MaxClock - 1))
	if tx != impl.MaxClock-1 || last.Next != impl.MaxClock || !impl.MgrOk(last) {
		t.Error("the last number:", tx, last.Next)
	}
}

func TestTxRead(t *testing.T) {
	for _, x := range []struct {
		tx, val, at int
		k           impl.Key
	}{
		{2, 21, -1, keyA}, {4, 50, 5, keyA}, {7, 90, 9, keyA},
		{2, 0, 3, keyB}, {4, 41, -1, keyB}, {7, 60, 6, keyB},
		{2, 22, -1, keyC}, {4, 0, -1, keyC}, {7, 0, 0, keyC},
		{2, 0, 0, keyD}, {4, 0, 0, keyD}, {7, math.MinInt, 9, keyD},
	} {
		m, val, code := impl.TxRead(sampleMgr(), x.tx, x.k)
		if val != x.val || code != impl.TmOk {
			t.Errorf("%d reads %d of %v with code %d, not %d", x.tx, val, x.k, code, x.val)
		}
		want := sampleMgr()
		want.Hist = append(want.Hist, impl.Ev{Kind: impl.EvRead, Tx: x.tx, K: x.k, Val: x.val, At: x.at})
		wantMgr(t, "TxRead", m, want)
	}
}

// At the hour of its Start a transaction still reads what was put at that hour.
func TestTxReadAtStart(t *testing.T) {
	m := changedMgr(func(m *impl.Mgr) { m.Txs[2].Start = 9 })
	if _, val, _ := impl.TxRead(m, 7, keyA); val != 90 {
		t.Error(val)
	}
	m.Txs[2].Start = 8
	if _, val, _ := impl.TxRead(m, 7, keyA); val != 80 {
		t.Error(val)
	}
	m.Txs[2].Start = 0
	if n, val, code := impl.TxRead(m, 7, keyA); val != 0 || code != impl.TmOk || n.Hist[5].At != 0 {
		t.Error(val, code)
	}
}

func TestTxWrite(t *testing.T) {
	first, between, last := impl.Key{T: 0, R: -9}, impl.Key{T: 1, R: 0}, impl.Key{T: 4, R: 0}
	for _, x := range []struct {
		k    impl.Key
		want []impl.Row
	}{
		{first, []impl.Row{{K: first, Val: 5}, {K: keyB, Val: 41}, {K: keyC, Val: 0}}},
		{keyB, []impl.Row{{K: keyB, Val: 5}, {K: keyC, Val: 0}}},
		{between, []impl.Row{{K: keyB, Val: 41}, {K: between, Val: 5}, {K: keyC, Val: 0}}},
		{keyC, []impl.Row{{K: keyB, Val: 41}, {K: keyC, Val: 5}}},
		{last, []impl.Row{{K: keyB, Val: 41}, {K: keyC, Val: 0}, {K: last, Val: 5}}},
	} {
		m, code := impl.TxWrite(sampleMgr(), 4, x.k, 5)
		want := sampleMgr()
		want.Txs[1].W = x.want
		want.Hist = append(want.Hist, impl.Ev{Kind: impl.EvWrite, Tx: 4, K: x.k, Val: 5})
		if code != impl.TmOk {
			t.Error(x.k, code)
		}
		wantMgr(t, "TxWrite", m, want)
	}
}

func TestTxWriteLimit(t *testing.T) {
	fresh := impl.Key{T: 2, R: 1}
	wantWrite(t, "MaxWrites - 1 rows", mgrWithWrites(impl.MaxWrites-1), 7, fresh, impl.TmOk)
	full := mgrWithWrites(impl.MaxWrites)
	wantWrite(t, "MaxWrites rows, a new one", full, 7, fresh, impl.TmFull)
	for _, r := range full.Txs[2].W {
		wantWrite(t, "MaxWrites rows, one of them", full, 7, r.K, impl.TmOk)
	}
	wantWrite(t, "another's rows don't count", full, 4, fresh, impl.TmOk)
	wantRead(t, "MaxWrites rows", full, 7, fresh, impl.TmOk)
	wantCommit(t, "MaxWrites rows", changedMgr(func(m *impl.Mgr) { m.Txs[2].W = rowsOf(impl.MaxWrites) }), 7, impl.TmOk)
}

func TestLost(t *testing.T) {
	for tx, want := range map[int]bool{1: false, 2: true, 3: false, 4: false, 7: false, 9: false, 0: false, -1: false} {
		if impl.Lost(sampleMgr(), tx) != want {
			t.Errorf("Lost of %d is not %v", tx, want)
		}
	}
	// The last version of keyA stands at 9: of an hour later than Start it must be, in any row.
	for start, want := range map[int]bool{0: true, 8: true, 9: false, 10: false} {
		m := changedMgr(func(m *impl.Mgr) {
			m.Txs[2] = impl.Tx{Id: 7, Start: start, W: []impl.Row{{K: impl.Key{R: 1}}, {K: keyA, Val: 90}, {K: keyC}}}
		})
		if impl.Lost(m, 7) != want {
			t.Errorf("Lost of Start %d is not %v", start, want)
		}
	}
	for name, m := range badMgrs() {
		if impl.Lost(m, 2) || impl.Lost(m, 7) {
			t.Errorf("%s: lost", name)
		}
	}
	if !impl.Lost(mgrWithHist(impl.MaxHist), 2) {
		t.Error("a full Hist hides the loss")
	}
}

func TestCommit(t *testing.T) {
	m, code := impl.Commit(sampleMgr(), 4)
	want := sampleMgr()
	want.Clock = 12
	want.Txs = []impl.Tx{want.Txs[0], want.Txs[2]}
	want.Hist = append(want.Hist, impl.Ev{Kind: impl.EvCommit, Tx: 4, At: 12})
	want.S = impl.Store{L: []impl.Chain{
		{K: keyA, L: []impl.Ver{{At: 2, Val: 20}, {At: 5, Val: 50}, {At: 8, Val: 80}, {At: 9, Val: 90}}},
		{K: keyB, L: []impl.Ver{{At: 3, Val: 0}, {At: 6, Val: 60}, {At: 12, Val: 41}}},
		{K: keyC, L: []impl.Ver{{At: 12, Val: 0}}},
		{K: keyD, L: []impl.Ver{{At: 9, Val: math.MinInt}}},
	}}
	if code != impl.TmOk {
		t.Error(code)
	}
	wantMgr(t, "Commit", m, want)
}

// The store is pruned to the least Start of those that are left, of whatever number.
func TestCommitPrunes(t *testing.T) {
	vers := func(starts ...int) []impl.Ver {
		m := sampleMgr()
		m.Next, m.Txs = impl.MaxClock, []impl.Tx{{Id: 50, Start: 1}}
		for i, start := range starts {
			m.Txs = append(m.Txs, impl.Tx{Id: 60 + i, Start: start})
		}
		n, code := impl.Commit(m, 50)
		if code != impl.TmOk || len(n.S.L) != 3 || n.Clock != 12 || n.S.L[0].K != keyA {
			t.Fatal(starts, code, n)
		}
		return n.S.L[0].L
	}
	for _, x := range []struct {
		starts []int
		first  int
	}{{nil, 9}, {[]int{10}, 9}, {[]int{9, 8, 10}, 8}, {[]int{7, 10}, 5}, {[]int{10, 7}, 5}, {[]int{5}, 5}, {[]int{4, 11}, 2}, {[]int{0}, 2}} {
		if l := vers(x.starts...); l[0].At != x.first || l[len(l)-1].At != 9 {
			t.Errorf("starts %v: %v", x.starts, l)
		}
	}
}

// Where nobody is left the store is pruned to the hour at which the last one ended.
func TestCommitOfTheLastOne(t *testing.T) {
	m := changedMgr(func(m *impl.Mgr) {
		m.Txs = []impl.Tx{{Id: 3, Start: 9, W: []impl.Row{{K: keyA, Val: 1}, {K: keyC, Val: 2}}}}
	})
	n, code := impl.Commit(m, 3)
	want := impl.Mgr{Clock: 12, Next: 9, Hist: append(histOf(5), impl.Ev{Kind: impl.EvCommit, Tx: 3, At: 12})}
	want.S = impl.Store{L: []impl.Chain{
		{K: keyA, L: []impl.Ver{{At: 12, Val: 1}}}, {K: keyB, L: []impl.Ver{{At: 6, Val: 60}}},
		{K: keyC, L: []impl.Ver{{At: 12, Val: 2}}}, {K: keyD, L: []impl.Ver{{At: 9, Val: math.MinInt}}},
	}}
	if code != impl.TmOk {
		t.Error(code)
	}
	wantMgr(t, "the last one", n, want)
}

// Who has written nothing ends at an hour of its own, and is never outrun.
func TestCommitOfNothing(t *testing.T) {
	m, code := impl.Commit(sampleMgr(), 7)
	want := sampleMgr()
	want.S, want.Clock, want.Txs = impl.Prune(want.S, 4), 12, want.Txs[:2]
	want.Hist = append(want.Hist, impl.Ev{Kind: impl.EvCommit, Tx: 7, At: 12})
	if code != impl.TmOk {
		t.Error(code)
	}
	wantMgr(t, "nothing written", m, want)
}

func TestCommitLimits(t *testing.T) {
	n, code := impl.Commit(mgrAt(impl.MaxClock-1), 4)
	if code != impl.TmOk || n.Clock != impl.MaxClock || n.Hist[5].At != impl.MaxClock || !impl.MgrOk(n) {
		t.Error("Clock at MaxClock - 1:", code, n.Clock)
	}
	wantCommit(t, "Clock at MaxClock - 2", mgrAt(impl.MaxClock-2), 7, impl.TmOk)
	wantCommit(t, "Clock at MaxClock", mgrAt(impl.MaxClock), 4, impl.TmFull)
	wantCommit(t, "Clock at MaxClock, nothing written", mgrAt(impl.MaxClock), 7, impl.TmFull)
	wantAbort(t, "Clock at MaxClock", mgrAt(impl.MaxClock), 7, impl.TmOk)
	wantRead(t, "Clock at MaxClock", mgrAt(impl.MaxClock), 7, keyA, impl.TmOk)
	wantWrite(t, "Clock at MaxClock", mgrAt(impl.MaxClock), 7, keyA, impl.TmOk)

	writer := func(s impl.Store, k impl.Key) impl.Mgr {
		return impl.Mgr{S: s, Clock: 500, Next: 9, Txs: []impl.Tx{{Id: 1, Start: 300, W: []impl.Row{{K: k, Val: 1}}}}}
	}
	fresh := impl.Key{T: 4, R: 5000}
	wantCommit(t, "MaxChains - 1 chains", writer(storeOfChains(impl.MaxChains-1), fresh), 1, impl.TmOk)
	wantCommit(t, "MaxChains chains", writer(storeOfChains(impl.MaxChains), fresh), 1, impl.TmFull)
	wantCommit(t, "MaxChains chains, one of them", writer(storeOfChains(impl.MaxChains), impl.Key{}), 1, impl.TmOk)
	short, full := impl.Store{L: []impl.Chain{chainOf(keyA, impl.MaxVers-1)}}, impl.Store{L: []impl.Chain{chainOf(keyA, impl.MaxVers)}}
	wantCommit(t, "MaxVers - 1 versions", writer(short, keyA), 1, impl.TmOk)
	wantCommit(t, "MaxVers versions", writer(full, keyA), 1, impl.TmFull)
	wantCommit(t, "MaxVers versions, another key", writer(full, keyB), 1, impl.TmOk)
}

func TestAbortTx(t *testing.T) {
	for i, tx := range []int{2, 4, 7} {
		m, code := impl.AbortTx(sampleMgr(), tx)
		want := sampleMgr()
		want.Txs = append(want.Txs[:i], want.Txs[i+1:]...)
		want.Hist = append(want.Hist, impl.Ev{Kind: impl.EvAbort, Tx: tx})
		if code != impl.TmOk {
			t.Error(tx, code)
		}
		wantMgr(t, "AbortTx", m, want)
	}
	last := changedMgr(func(m *impl.Mgr) { m.Txs = m.Txs[:1] })
	n, _ := impl.AbortTx(last, 2)
	want := changedMgr(func(m *impl.Mgr) { m.Txs = nil })
	want.Hist = append(want.Hist, impl.Ev{Kind: impl.EvAbort, Tx: 2})
	wantMgr(t, "the last one gives up", n, want)
}

// Two events are free where one is put, but for AbortTx, which takes the last one.
func TestHistLimits(t *testing.T) {
	for name, call := range txCalls(keyC) {
		for _, n := range []int{0, impl.MaxHist - 3, impl.MaxHist - 2} {
			m, _, code := call(mgrWithHist(n), 7)
			if code != impl.TmOk || len(m.Hist) != n+1 || !sameEvs(m.Hist[:n], histOf(n)) || !impl.MgrOk(m) {
				t.Errorf("%s at %d events: code %d, %d events", name, n, code, len(m.Hist))
			}
		}
		near := impl.TmFull
		if name == "AbortTx" {
			near = impl.TmOk
		}
		m, val, code := call(mgrWithHist(impl.MaxHist-1), 7)
		wantCode(t, name+" at MaxHist - 1", m, val, code, near)
		m, val, code = call(mgrWithHist(impl.MaxHist), 7)
		wantCode(t, name+" at MaxHist", m, val, code, impl.TmFull)
	}
}

func TestWrongMgrs(t *testing.T) {
	for name, m := range badMgrs() {
		wantBegin(t, name, m, impl.TmBad)
		for what, call := range txCalls(keyC) {
			for _, tx := range []int{2, 7} {
				n, val, code := call(m, tx)
				wantCode(t, name+": "+what, n, val, code, impl.TmBad)
			}
		}
	}
}

func TestWrongTransactions(t *testing.T) {
	for _, tx := range []int{math.MinInt, -1, 0, 1, 3, 5, 6, 8, 9, 10, math.MaxInt} {
		for what, call := range txCalls(keyC) {
			m, val, code := call(sampleMgr(), tx)
			wantCode(t, what, m, val, code, impl.TmBad)
			m, val, code = call(impl.MgrNew(), tx)
			wantCode(t, what+" of a new Mgr", m, val, code, impl.TmBad)
		}
	}
}

func TestWrongTables(t *testing.T) {
	for _, table := range noTables() {
		for _, tx := range []int{2, 4, 7} {
			wantRead(t, "no table", sampleMgr(), tx, impl.Key{T: table, R: 2}, impl.TmBad)
			wantWrite(t, "no table", sampleMgr(), tx, impl.Key{T: table, R: 2}, impl.TmBad)
		}
	}
	for table := range impl.Tables {
		wantRead(t, "a table", sampleMgr(), 7, impl.Key{T: table, R: math.MaxInt}, impl.TmOk)
		wantWrite(t, "a table", sampleMgr(), 7, impl.Key{T: table, R: math.MaxInt}, impl.TmOk)
	}
}

// Of several codes the one that the document names first is told.
func TestWhatIsSaidFirst(t *testing.T) {
	full := mgrWithHist(impl.MaxHist)
	for what, call := range txCalls(keyC) {
		m, val, code := call(full, 3)
		wantCode(t, what+": no such transaction and no room", m, val, code, impl.TmBad)
		m, val, code = call(mgrWithHist(impl.MaxHist+1), 2)
		wantCode(t, what+": not MgrOk and no room", m, val, code, impl.TmBad)
	}
	wantBegin(t, "not MgrOk and no room", mgrWithHist(impl.MaxHist+1), impl.TmBad)
	wantRead(t, "no table and no room", full, 2, impl.Key{T: -1}, impl.TmBad)
	wantWrite(t, "no table and no room", full, 2, impl.Key{T: impl.Tables}, impl.TmBad)
	wantWrite(t, "no table and MaxWrites rows", mgrWithWrites(impl.MaxWrites), 7, impl.Key{T: impl.Tables}, impl.TmBad)

	wantCommit(t, "lost and no room", full, 2, impl.TmFull)
	wantCommit(t, "lost and little room", mgrWithHist(impl.MaxHist-1), 2, impl.TmFull)
	wantCommit(t, "lost and room", mgrWithHist(impl.MaxHist-2), 2, impl.TmLost)
	wantCommit(t, "lost and Clock at MaxClock", mgrAt(impl.MaxClock), 2, impl.TmLost)
	many := changedMgr(func(m *impl.Mgr) {
		m.Clock, m.S = 500, impl.Store{L: []impl.Chain{chainOf(keyA, impl.MaxVers)}}
	})
	wantCommit(t, "lost and MaxVers versions", many, 2, impl.TmLost)
	wantAbort(t, "lost", sampleMgr(), 2, impl.TmOk)
}
