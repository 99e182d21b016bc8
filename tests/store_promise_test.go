package tests

import (
	"testing"

	"loop.example/g00689/impl"
)

// dice is a row of numbers that is the same in each run.
type dice uint64

func (d *dice) below(n int) int {
	*d = *d*6364136223846793005 + 1442695040888963407
	return int(uint64(*d)>>33) % n
}

// written is what a store was told, from the first to the last; it is read by going through all of it.
type written []struct {
	at  int
	row impl.Row
}

func (l written) read(k impl.Key, hour int) (int, int) {
	val, at := 0, 0
	for _, w := range l {
		if w.row.K == k && w.at <= hour {
			val, at = w.row.Val, w.at
		}
	}
	return val, at
}

func promiseKeys() []impl.Key {
	var l []impl.Key
	for table := range impl.Tables {
		for _, r := range []int{-3, 0, 8} {
			l = append(l, impl.Key{T: table, R: r})
		}
	}
	return l
}

func drawRows(d *dice, keys []impl.Key) []impl.Row {
	var w []impl.Row
	for range d.below(6) {
		w = append(w, impl.Row{K: keys[d.below(len(keys))], Val: d.below(5) - 2})
	}
	return w
}

// agree holds all that can be read of s from an hour on against what was written.
func agree(t *testing.T, s impl.Store, l written, from, until int) {
	t.Helper()
	if !impl.StoreOk(s) {
		t.Fatal("not StoreOk:", s)
	}
	for hour := from; hour <= until; hour++ {
		var state []impl.Row
		for _, k := range promiseKeys() {
			val, at := l.read(k, hour)
			if gotVal, gotAt := impl.ReadAt(s, k, hour); gotVal != val || gotAt != at {
				t.Fatalf("ReadAt(%v, %d) is %d, %d, not %d, %d", k, hour, gotVal, gotAt, val, at)
			}
			if val != 0 {
				state = append(state, impl.Row{K: k, Val: val})
			}
		}
		if got := impl.StateAt(s, hour); !sameRows(got, state) {
			t.Fatalf("StateAt %d is %v, not %v", hour, got, state)
		}
	}
	for _, k := range promiseKeys() {
		if _, at := l.read(k, impl.MaxClock); impl.LastAt(s, k) != at {
			t.Fatalf("LastAt(%v) is %d, not %d", k, impl.LastAt(s, k), at)
		}
	}
}

// Promise 1: what is put into the store is read from its hour on, and ahead of that all is as it was; what is pruned is read from that hour on as it was.
func TestPromise1(t *testing.T) {
	d := dice(1)
	keys := promiseKeys()
	for range 25 {
		s, l := impl.Store{}, written{}
		hour, pruned := 0, 0
		for range 12 {
			hour += 1 + d.below(3)
			w := drawRows(&d, keys)
			s = mustInstall(t, s, hour, w...)
			for _, r := range w {
				l = append(l, struct {
					at  int
					row impl.Row
				}{hour, r})
			}
			agree(t, s, l, pruned, hour+1)
			if d.below(3) == 0 {
				pruned = max(pruned, d.below(hour+2))
				s = impl.Prune(s, pruned)
				agree(t, s, l, pruned, hour+1)
			}
		}
	}
}

// A chain's hour holds that chain up alone: another key may be put at an earlier one.
func TestPromise1EarlierHour(t *testing.T) {
	s := mustInstall(t, impl.Store{}, 9, impl.Row{K: keyA, Val: 1})
	s = mustInstall(t, s, 4, impl.Row{K: keyB, Val: 2})
	s = mustInstall(t, s, 9, impl.Row{K: keyB, Val: 3})
	for _, x := range []struct{ hour, a, b int }{{3, 0, 0}, {4, 0, 2}, {8, 0, 2}, {9, 1, 3}, {impl.MaxClock, 1, 3}} {
		a, _ := impl.ReadAt(s, keyA, x.hour)
		b, _ := impl.ReadAt(s, keyB, x.hour)
		if a != x.a || b != x.b {
			t.Error(x, a, b)
		}
	}
}

// What is pruned leaves room: a chain that was full takes a version again.
func TestPromise1PruneLeavesRoom(t *testing.T) {
	full := impl.Store{L: []impl.Chain{chainOf(keyA, impl.MaxVers)}}
	mustRefuse(t, full, impl.MaxVers+1, impl.Row{K: keyA, Val: 7})
	s := mustInstall(t, impl.Prune(full, 2), impl.MaxVers+1, impl.Row{K: keyA, Val: 7})
	if val, at := impl.ReadAt(s, keyA, impl.MaxVers+1); val != 7 || at != impl.MaxVers+1 {
		t.Fatal(val, at)
	}
	for hour := 2; hour <= impl.MaxVers; hour++ {
		val, at := impl.ReadAt(s, keyA, hour)
		if val != hour+99 || at != hour {
			t.Fatal(hour, val, at)
		}
	}
}

// Pruning twice is pruning to the later hour.
func TestPromise1PruneTwice(t *testing.T) {
	for first := range 11 {
		for second := range 11 {
			got := impl.Prune(impl.Prune(sampleStore(), first), second)
			if !sameStore(got, impl.Prune(sampleStore(), max(first, second))) {
				t.Fatal(first, second, got)
			}
		}
	}
}
