package tests

import (
	"slices"
	"testing"

	"loop.example/g00689/impl"
)

// play is a Mgr beside a plain account of the same: all that was ever put, and what each transaction wrote itself.
type play struct {
	t     *testing.T
	d     dice
	keys  []impl.Key
	m     impl.Mgr
	put   written
	hist  []impl.Ev
	clock int
	next  int
	txs   []played
}

type played struct {
	id, start int
	own       map[impl.Key]int
}

func newPlay(t *testing.T, seed int) *play {
	return &play{t: t, d: dice(seed), keys: promiseKeys()[3:9], m: impl.MgrNew(), next: 1}
}

func (p *play) key() impl.Key {
	return p.keys[p.d.below(len(p.keys))]
}

// read is what a transaction is promised: what it wrote, else what stood when it began.
func (p *play) read(x played, k impl.Key) (int, int) {
	if val, ok := x.own[k]; ok {
		return val, -1
	}
	return p.put.read(k, x.start)
}

func (p *play) outrun(x played) bool {
	for k := range x.own {
		if _, at := p.put.read(k, impl.MaxClock); at > x.start {
			return true
		}
	}
	return false
}

func (p *play) oldest() int {
	start := p.clock
	for _, x := range p.txs {
		start = min(start, x.start)
	}
	return start
}

func (p *play) begin() {
	m, tx, code := impl.Begin(p.m)
	if len(p.txs) == impl.MaxTxs {
		wantCode(p.t, "Begin", m, tx, code, impl.TmFull)
		return
	}
	p.clock++
	p.hist = append(p.hist, impl.Ev{Kind: impl.EvBegin, Tx: p.next, At: p.clock})
	p.txs = append(p.txs, played{id: p.next, start: p.clock, own: map[impl.Key]int{}})
	if tx != p.next || code != impl.TmOk {
		p.t.Fatal("Begin:", tx, code)
	}
	p.next++
	p.m = m
}

func (p *play) step(x played) {
	k, val, code := p.key(), p.d.below(9)-4, 0
	if p.d.below(2) == 0 {
		p.m, code = impl.TxWrite(p.m, x.id, k, val)
		x.own[k] = val
		p.hist = append(p.hist, impl.Ev{Kind: impl.EvWrite, Tx: x.id, K: k, Val: val})
	} else {
		want, at := p.read(x, k)
		p.m, val, code = impl.TxRead(p.m, x.id, k)
		if val != want {
			p.t.Fatalf("%d reads %d of %v, not %d", x.id, val, k, want)
		}
		p.hist = append(p.hist, impl.Ev{Kind: impl.EvRead, Tx: x.id, K: k, Val: want, At: at})
	}
	if code != impl.TmOk {
		p.t.Fatal("a step:", code)
	}
}

// end ends it by Commit, unless it is outrun or gives up of itself.
func (p *play) end(x played, givesUp bool) {
	lost := p.outrun(x)
	if impl.Lost(p.m, x.id) != lost {
		p.t.Fatalf("Lost of %d is not %v", x.id, lost)
	}
	if lost {
		n, code := impl.Commit(p.m, x.id)
		wantCode(p.t, "Commit of one that is outrun", n, 0, code, impl.TmLost)
	}
	code := 0
	if lost || givesUp {
		before := p.m.S
		p.m, code = impl.AbortTx(p.m, x.id)
		p.hist = append(p.hist, impl.Ev{Kind: impl.EvAbort, Tx: x.id})
		if !sameStore(p.m.S, before) {
			p.t.Fatalf("%d gives up, and leaves %v of %v", x.id, p.m.S, before)
		}
	} else {
		p.m, code = impl.Commit(p.m, x.id)
		p.clock++
		p.hist = append(p.hist, impl.Ev{Kind: impl.EvCommit, Tx: x.id, At: p.clock})
		for k, val := range x.own {
			p.put = append(p.put, struct {
				at  int
				row impl.Row
			}{p.clock, impl.Row{K: k, Val: val}})
		}
	}
	if code != impl.TmOk {
		p.t.Fatal("an end:", code)
	}
	p.txs = slices.DeleteFunc(p.txs, func(y played) bool { return y.id == x.id })
}

// check holds the whole Mgr, and all that can be read of it, against the account.
func (p *play) check() {
	p.t.Helper()
	var txs []impl.Tx
	for _, x := range p.txs {
		tx := impl.Tx{Id: x.id, Start: x.start}
		for _, k := range p.keys {
			if val, ok := x.own[k]; ok {
				tx.W = append(tx.W, impl.Row{K: k, Val: val})
			}
			want, _ := p.read(x, k)
			if _, val, code := impl.TxRead(p.m, x.id, k); val != want || code != impl.TmOk {
				p.t.Fatalf("%d would read %d of %v, not %d", x.id, val, k, want)
			}
		}
		txs = append(txs, tx)
	}
	if !impl.MgrOk(p.m) || !sameTxs(p.m.Txs, txs) || !sameEvs(p.m.Hist, p.hist) || p.m.Clock != p.clock || p.m.Next != p.next {
		p.t.Fatalf("%v\nis not as %v, %v, %d, %d", p.m, txs, p.hist, p.clock, p.next)
	}
	agree(p.t, p.m.S, p.put, p.oldest(), p.clock)
}

// checkGone asks for one that has ended, which there is no more.
func (p *play) checkGone(tx int) {
	for what, call := range txCalls(p.key()) {
		n, val, code := call(p.m, tx)
		wantCode(p.t, what+" of one that has ended", n, val, code, impl.TmBad)
	}
}

// Promise 2: a transaction reads what it wrote, else what stood when it began; who is outrun can't end, who is not ends with what it wrote, and nobody else reads otherwise; who gives up leaves nothing.
func TestPromise2(t *testing.T) {
	for seed := range 30 {
		p := newPlay(t, seed)
		for range 60 {
			if len(p.txs) == 0 || p.d.below(4) == 0 {
				p.begin()
			}
			x := p.txs[p.d.below(len(p.txs))]
			if p.d.below(4) > 0 {
				p.step(x)
			} else {
				p.end(x, p.d.below(4) == 0)
				p.checkGone(x.id)
			}
			p.check()
		}
		for len(p.txs) > 0 {
			p.end(p.txs[p.d.below(len(p.txs))], false)
			p.check()
		}
	}
}

// What is under way when the events run out can't end any more, but one can give up.
func TestPromise2UntilFull(t *testing.T) {
	p := newPlay(t, 99)
	for len(p.hist) < impl.MaxHist-4 {
		if len(p.txs) < 3 {
			p.begin()
			continue
		}
		if x := p.txs[p.d.below(len(p.txs))]; p.d.below(5) > 0 {
			p.step(x)
		} else {
			p.end(x, false)
		}
	}
	for len(p.txs) < 3 {
		p.begin()
	}
	for len(p.hist) < impl.MaxHist-2 {
		p.step(p.txs[0])
	}
	p.check()
	p.step(p.txs[0])
	wantBegin(t, "all events but one", p.m, impl.TmFull)
	wantRead(t, "all events but one", p.m, p.txs[1].id, p.keys[0], impl.TmFull)
	wantWrite(t, "all events but one", p.m, p.txs[1].id, p.keys[0], impl.TmFull)
	wantCommit(t, "all events but one", p.m, p.txs[1].id, impl.TmFull)
	n, code := impl.AbortTx(p.m, p.txs[1].id)
	if code != impl.TmOk || len(n.Hist) != impl.MaxHist || len(n.Txs) != 2 || !sameStore(n.S, p.m.S) {
		t.Fatal("one gives up:", code, len(n.Hist))
	}
	wantAbort(t, "all events", n, p.txs[0].id, impl.TmFull)
}

// Of two that write one row the first that ends wins, even with the value that stood there.
func TestPromise2FirstWins(t *testing.T) {
	for _, first := range []int{0, 1} {
		m := impl.MgrNew()
		var ids [2]int
		for i := range ids {
			m, ids[i], _ = impl.Begin(m)
		}
		for i := range ids {
			m, _ = impl.TxWrite(m, ids[i], keyA, 0)
			m, _ = impl.TxWrite(m, ids[i], impl.Key{T: 3, R: i}, 10+i)
		}
		m, code := impl.Commit(m, ids[first])
		if code != impl.TmOk || impl.Lost(m, ids[first]) || !impl.Lost(m, ids[1-first]) {
			t.Fatal("the first one", first, code)
		}
		wantCommit(t, "the second one", m, ids[1-first], impl.TmLost)
		m, _ = impl.AbortTx(m, ids[1-first])
		m, later, _ := impl.Begin(m)
		for i := range ids {
			want := 0
			if i == first {
				want = 10 + i
			}
			if _, val, _ := impl.TxRead(m, later, impl.Key{T: 3, R: i}); val != want {
				t.Error("a later one reads", val, "not", want)
			}
		}
		m, _ = impl.TxWrite(m, later, keyA, 3)
		if n, code := impl.Commit(m, later); code != impl.TmOk || n.S.L[0].L[0].Val != 3 {
			t.Error("a later one can't end:", code)
		}
	}
}

// One that has only read a row is not outrun by who writes it.
func TestPromise2ReadersAreNotOutrun(t *testing.T) {
	m, reader, _ := impl.Begin(impl.MgrNew())
	m, writer, _ := impl.Begin(m)
	m, _, _ = impl.TxRead(m, reader, keyA)
	m, _ = impl.TxWrite(m, writer, keyA, 5)
	m, _ = impl.Commit(m, writer)
	m, _ = impl.TxWrite(m, reader, keyB, 6)
	m, val, _ := impl.TxRead(m, reader, keyA)
	if val != 0 || impl.Lost(m, reader) {
		t.Error(val)
	}
	n, code := impl.Commit(m, reader)
	want := impl.Store{L: []impl.Chain{{K: keyA, L: []impl.Ver{{At: 3, Val: 5}}}, {K: keyB, L: []impl.Ver{{At: 4, Val: 6}}}}}
	if code != impl.TmOk || !sameStore(n.S, want) {
		t.Error(code, n.S)
	}
}
