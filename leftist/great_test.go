package leftist_test

import (
	"math/rand"
	"slices"
	"testing"

	"thicket/api"
	"thicket/item"
	"thicket/leftist"
)

// grow is add of many keys: it looks at the steps alone, for to look at all cells at each call would take too long.
func (w *wood) grow(h int, keys []int64) {
	w.t.Helper()
	for at, key := range keys {
		i, _ := item.New(w.a, key, int64(at))
		w.has[h] = append(w.has[h], i)
		ok := false
		w.within("Push", most(len(w.has[h])), func() { w.root[h], ok = leftist.Push(w.a, w.root[h], i) })
		if !ok {
			w.t.Fatalf("P8: Push %d: false", at)
		}
	}
}

// sink lowers an item's key and makes the Fall.
func (w *wood) sink(h, i int, key int64) {
	w.t.Helper()
	item.Lower(w.a, i, key)
	w.within("Fall", most(len(w.has[h])), func() { w.root[h] = leftist.Fall(w.a, w.root[h], i) })
}

// prune cuts an item.
func (w *wood) prune(h, i int) {
	w.t.Helper()
	w.within("Cut", most(len(w.has[h])), func() { w.root[h] = leftist.Cut(w.a, w.root[h], i) })
	w.has[h], w.out = without(w.has[h], i), append(w.out, i)
}

// empty pops all items: in order, each within its steps.
func (w *wood) empty(h int) {
	w.t.Helper()
	want := slices.SortedFunc(slices.Values(w.has[h]), w.compare)
	for at, i := range want {
		got := api.None
		w.within("Pop", most(len(want)-at), func() { w.root[h], got = leftist.Pop(w.a, w.root[h]) })
		if got != i {
			w.t.Fatalf("P8.3: Pop %d: item %d, must be %d", at, got, i)
		}
	}
	w.has[h], w.out = nil, append(w.out, want...)
}

// complete is the root of a heap of 2^depth - 1 nodes, each of them with two children of one Rank: the longest way to the right that so many can have. Keys rise with the depth.
func (w *wood) complete(h, depth int, key int64) int {
	w.t.Helper()
	if depth == 0 {
		return api.None
	}
	i, _ := item.New(w.a, key, int64(len(w.has[h])))
	w.has[h] = append(w.has[h], i)
	r, _ := leftist.Push(w.a, api.None, i)
	for range 2 {
		r = leftist.Meld(w.a, r, w.complete(h, depth-1, key+2))
	}
	return r
}

const many = 1 << 13

func TestGreatHeaps(t *testing.T) {
	for how, keys := range orders(many) {
		q := rand.New(rand.NewSource(10))
		w := plant(t, 2*many, 1)
		w.grow(0, keys)
		w.right("Push of " + how + " keys")
		for range 400 {
			i := w.has[0][q.Intn(len(w.has[0]))]
			key := item.Entry(w.a, i).Key
			w.sink(0, i, min(key, int64(q.Intn(many)-many/2)))
		}
		w.right("Fall of " + how + " keys")
		for range 400 {
			w.prune(0, w.has[0][q.Intn(len(w.has[0]))])
		}
		w.right("Cut of " + how + " keys")
		w.empty(0)
		w.right("all are popped")
	}
}

// Falling keys make a heap that is as deep to the left as it has items: what goes from node to node there takes too many steps.
func TestDeepHeap(t *testing.T) {
	w := plant(t, 4*many, 2)
	w.grow(0, orders(2 * many)["falling"])
	deep := 0
	for n := w.root[0]; n != api.None; n = w.a.Cell(n, api.Left) {
		deep++
	}
	if deep != 2*many {
		t.Fatalf("the heap is %d deep", deep)
	}
	w.sink(0, w.has[0][0], -3*many)
	w.right("Fall of the deepest to the least")
	w.sink(0, w.has[0][1], -many-1)
	w.right("Fall of a deep one to the middle")
	w.sink(0, w.has[0][2], -3)
	w.right("Fall of a deep one by a little")
	w.prune(0, w.has[0][3])
	w.prune(0, w.has[0][many])
	w.right("Cut of deep ones")
	w.within("Meld", most(2*many), func() { w.root[1] = leftist.Meld(w.a, w.root[1], w.root[0]) })
	w.root[0], w.has[0], w.has[1] = api.None, nil, w.has[0]
	w.right("Meld of none with a deep one")
	w.empty(1)
	w.right("all are popped")
}

func TestDropOfADeepHeap(t *testing.T) {
	w := plant(t, 2*many, 1)
	w.grow(0, orders(many)["falling"])
	w.drop(0)
	w.right("Drop")
}

// In a complete heap Ranks change all the way up from any node that leaves it.
func TestCompleteHeap(t *testing.T) {
	const depth = 5
	for at := range 1<<depth - 1 {
		for _, leave := range []func(w *wood, i int){
			func(w *wood, i int) { w.cut(0, i) },
			func(w *wood, i int) { w.fall(0, i, -1) },
			func(w *wood, i int) { w.fall(0, i, item.Entry(w.a, i).Key/2) },
			func(w *wood, i int) { w.pop(0) },
		} {
			w := plant(t, 100, 1)
			w.root[0] = w.complete(0, depth, 0)
			w.right("a complete heap")
			if got := w.a.Get(w.root[0], api.Rank); got != depth {
				t.Fatalf("P8.1: Rank of a complete heap's root: %d", got)
			}
			leave(w, w.has[0][at])
			w.right("one leaves a complete heap")
			w.drain(0)
		}
	}
}

func TestGreatCompleteHeap(t *testing.T) {
	const depth = 13
	q := rand.New(rand.NewSource(11))
	w := plant(t, 2*many, 1)
	w.root[0] = w.complete(0, depth, 0)
	w.right("a complete heap")
	for n := range 200 {
		last := w.root[0] // the one farthest to the right
		for c := last; c != api.None; c = w.a.Cell(c, api.Right) {
			last = c
		}
		i := w.a.Cell(last, api.Item)
		if n%2 == 0 {
			w.prune(0, i)
		} else {
			w.sink(0, i, int64(-n))
		}
		w.prune(0, w.has[0][q.Intn(len(w.has[0]))])
	}
	w.right("Cuts and Falls of a complete heap")
	w.empty(0)
}

// Two complete heaps of like keys: a Meld goes down both of their ways to the right.
func TestMeldOfGreatHeaps(t *testing.T) {
	for _, shift := range []int64{-100, -1, 0, 1, 100} {
		w := plant(t, 2*many, 2)
		w.root[0] = w.complete(0, 12, 0)
		w.root[1] = w.complete(1, 12, shift)
		w.meld(0, 1)
		w.right("Meld of complete heaps")
		w.empty(0)
		w.right("all are popped")
	}
}

// As many items as there may be, and no cell for the node of one more.
func TestAllCells(t *testing.T) {
	w := plant(t, api.MaxCells, 1)
	w.grow(0, orders(api.MaxCells/2 - 1)["mixed"])
	i, j := w.fresh(least, 0), w.fresh(least, 1)
	w.right("all cells are taken")
	if r, ok := leftist.Push(w.a, w.root[0], i); r != w.root[0] || ok {
		t.Errorf("P8: Push without a cell: %d %t", r, ok)
	}
	w.right("Push without a cell")
	w.a.Give(j)
	w.out = nil
	w.has[0] = append(w.has[0], i)
	w.root[0], _ = leftist.Push(w.a, w.root[0], i)
	w.right("Push into the last cell")
	w.empty(0)
	w.right("all are popped")
}
