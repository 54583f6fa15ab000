package kind_test

import (
	"slices"
	"strconv"
	"testing"

	"thicket/api"
	"thicket/arena"
	"thicket/heaptest"
	"thicket/item"
)

// twins are two arenas in which the same is done: in one by the kind's own calls, in the other by its number.
type twins struct {
	t    *testing.T
	what string
	k    [2]heaptest.Kind
	a    [2]*arena.Arena
	root [2]int // of two heaps
	has  []int  // items that were made, wherever they are
	m    *heaptest.Mixed
}

func pair(t *testing.T, k, cells int, m *heaptest.Mixed) *twins {
	w := &twins{t: t, m: m, what: "kind " + strconv.Itoa(k)}
	w.k = [2]heaptest.Kind{own(k), asked(k)}
	w.a = [2]*arena.Arena{arena.New(cells), arena.New(cells)}
	w.root = [2]int{api.None, api.None}
	return w
}

// told is what one call answered; of some calls a field is not used.
type told struct {
	root, item int
	ok         bool
	list       []int
}

// both makes one call in each arena; what is told, what is left behind and the steps must be the same.
func (w *twins) both(call string, run func(k heaptest.Kind, a *arena.Arena) told) told {
	w.t.Helper()
	var got [2]told
	for at, a := range w.a {
		got[at] = run(w.k[at], a)
	}
	if got[0].root != got[1].root || got[0].item != got[1].item || got[0].ok != got[1].ok || !slices.Equal(got[0].list, got[1].list) {
		w.t.Fatalf("P15.1: %s: %s: %v, must be %v", w.what, call, got[1], got[0])
	}
	w.alike(call)
	return got[0]
}

// alike sees that both arenas are the same, number for number.
func (w *twins) alike(call string) {
	w.t.Helper()
	must, is := w.a[0], w.a[1]
	if got, want := is.Meter().Steps(), must.Meter().Steps(); got != want {
		w.t.Fatalf("P15.1: %s: %s: steps so far: %d, must be %d", w.what, call, got, want)
	}
	for c := range must.Cells() {
		if must.Live(c) != is.Live(c) {
			w.t.Fatalf("P15.1: %s: %s: cell %d is taken: %t", w.what, call, c, is.Live(c))
		}
		for field := range api.Fields {
			if got, want := is.Get(c, field), must.Get(c, field); got != want {
				w.t.Fatalf("P15.1: %s: %s: cell %d, field %d: %d, must be %d", w.what, call, c, field, got, want)
			}
		}
	}
}

func (w *twins) push(h, i int) {
	w.t.Helper()
	w.root[h] = w.both("Push", func(k heaptest.Kind, a *arena.Arena) (l told) {
		l.root, l.ok = k.Push(a, w.root[h], i)
		return l
	}).root
}

func (w *twins) pop(h int) {
	w.t.Helper()
	w.root[h] = w.both("Pop", func(k heaptest.Kind, a *arena.Arena) (l told) {
		l.root, l.item = k.Pop(a, w.root[h])
		return l
	}).root
}

func (w *twins) fall(h, i int) {
	w.t.Helper()
	w.root[h] = w.both("Fall", func(k heaptest.Kind, a *arena.Arena) told {
		return told{root: k.Fall(a, w.root[h], i)}
	}).root
}

func (w *twins) cut(h, i int) {
	w.t.Helper()
	w.root[h] = w.both("Cut", func(k heaptest.Kind, a *arena.Arena) told {
		return told{root: k.Cut(a, w.root[h], i)}
	}).root
}

func (w *twins) meld(h, s int) {
	w.t.Helper()
	w.root[h] = w.both("Meld", func(k heaptest.Kind, a *arena.Arena) told {
		return told{root: k.Meld(a, w.root[h], s)}
	}).root
}

func (w *twins) drop(h int) {
	w.t.Helper()
	w.both("Drop", func(k heaptest.Kind, a *arena.Arena) told {
		return told{list: k.Drop(a, w.root[h])}
	})
	w.root[h] = api.None
}

// ask makes the calls that only tell.
func (w *twins) ask(h int) {
	w.t.Helper()
	w.both("Min", func(k heaptest.Kind, a *arena.Arena) told { return told{item: k.Min(a, w.root[h])} })
	w.both("All", func(k heaptest.Kind, a *arena.Arena) told { return told{list: k.All(a, w.root[h])} })
}

// fresh makes an item in both arenas.
func (w *twins) fresh(key int64) int {
	w.t.Helper()
	i, ok := item.New(w.a[0], key, int64(len(w.has)))
	item.New(w.a[1], key, int64(len(w.has)))
	if ok {
		w.has = append(w.has, i)
	}
	return i
}

// any is an item that was made, in a heap or not, or now and then any number.
func (w *twins) any() int {
	if len(w.has) == 0 || w.m.Below(20) == 0 {
		return w.m.One(append(heaptest.NoCells(), 0, 1, 2, 3))
	}
	return w.m.One(w.has)
}

// of is an item of a heap, if it has one.
func (w *twins) of(h int) int {
	l := w.k[0].All(w.a[0], w.root[h])
	w.k[1].All(w.a[1], w.root[h])
	if len(l) == 0 {
		return w.any()
	}
	return w.m.One(l)
}

func (w *twins) step() {
	w.t.Helper()
	h := w.m.Below(2)
	switch what := w.m.Below(30); {
	case what < 10:
		w.push(h, w.fresh(int64(w.m.Below(60))))
	case what < 13:
		w.push(h, w.any())
	case what < 17:
		w.pop(h)
	case what < 22:
		i, key := w.of(h), int64(w.m.Below(60)-30)
		item.Lower(w.a[0], i, key)
		item.Lower(w.a[1], i, key)
		w.fall(h, i)
	case what < 26:
		w.cut(h, w.of(h))
	case what < 28:
		w.meld(h, w.root[1-h])
		w.root[1-h] = api.None
	case what < 29:
		w.meld(h, w.m.One(append(heaptest.NoCells(), w.root[h])))
	default:
		w.drop(h)
	}
	w.ask(h)
}

// P15.1: each call tells and leaves behind what that kind's own call does, and takes as many steps.
func TestAsItsOwnCalls(t *testing.T) {
	for _, k := range kinds() {
		m := heaptest.Mix(uint64(20 + k))
		for range 30 {
			w := pair(t, k, 1+m.Below(120), m)
			for range 150 {
				w.step()
			}
		}
	}
}

// Heaps of nothing, and ints that are no cells.
func TestOddAsItsOwnCalls(t *testing.T) {
	for _, k := range kinds() {
		m := heaptest.Mix(uint64(40 + k))
		for _, r := range append(heaptest.NoCells(), 0, 1, 2) {
			w := pair(t, k, 9, m)
			w.fresh(3)
			w.push(1, w.fresh(4))
			for _, x := range append(heaptest.NoCells(), 0, 1, 2, 3) {
				for _, call := range []func(){
					func() { w.push(0, x) }, func() { w.pop(0) }, func() { w.fall(0, x) },
					func() { w.cut(0, x) }, func() { w.meld(0, x) }, func() { w.ask(0) }, func() { w.drop(0) },
				} {
					w.root[0] = r
					call()
				}
			}
		}
	}
}
