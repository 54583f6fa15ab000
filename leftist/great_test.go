package leftist_test

import (
	"slices"
	"testing"

	"thicket/api"
	"thicket/heaptest"
	"thicket/item"
	"thicket/leftist"
)

// complete is the root of a heap of 2^depth - 1 nodes, each of them with two children of one Rank: the longest way to the right that so many can have. Keys rise with the depth.
func complete(w *heaptest.Wood, h, depth int, key int64) int {
	w.Helper()
	if depth == 0 {
		return api.None
	}
	i, _ := item.New(w.A, key, int64(len(w.Has[h])))
	w.Has[h] = append(w.Has[h], i)
	r, _ := leftist.Push(w.A, api.None, i)
	for range 2 {
		r = leftist.Meld(w.A, r, complete(w, h, depth-1, key+2))
	}
	return r
}

// Falling keys make a heap that is as deep to the left as it has items: what goes from node to node there takes too many steps.
func TestDeepHeap(t *testing.T) {
	const many = 2 * heaptest.Many
	w := heaptest.Greatly(t, kind(), 2*many, 2)
	w.Add(0, heaptest.Each(many, func(at int) int64 { return int64(-at) })...)
	items := slices.Clone(w.Has[0])
	deep := 0
	for n := w.Root[0]; n != api.None; n = w.A.Cell(n, api.Left) {
		deep++
	}
	if deep != many {
		t.Fatalf("the heap is %d deep", deep)
	}
	w.Fall(0, items[0], -2*many)
	w.Right("Fall of the deepest to the least")
	w.Fall(0, items[1], -many/2-1)
	w.Right("Fall of a deep one to the middle")
	w.Fall(0, items[2], -3)
	w.Right("Fall of a deep one by a little")
	w.Cut(0, items[3])
	w.Cut(0, items[many/2])
	w.Right("Cut of deep ones")
	w.Meld(1, 0)
	w.Right("Meld of none with a deep one")
	w.Drain(1)
	w.Right("all are popped")
}

func TestDropOfADeepHeap(t *testing.T) {
	w := heaptest.Greatly(t, kind(), 2*heaptest.Many, 1)
	w.Add(0, heaptest.Each(heaptest.Many, func(at int) int64 { return int64(-at) })...)
	w.Drop(0)
	w.Right("Drop")
}

// In a complete heap Ranks change all the way up from any node that leaves it.
func TestCompleteHeap(t *testing.T) {
	const depth = 5
	for at := range 1<<depth - 1 {
		for _, leave := range []func(w *heaptest.Wood, i int){
			func(w *heaptest.Wood, i int) { w.Cut(0, i) },
			func(w *heaptest.Wood, i int) { w.Fall(0, i, -1) },
			func(w *heaptest.Wood, i int) { w.Fall(0, i, w.Key(i)/2) },
			func(w *heaptest.Wood, i int) { w.Pop(0) },
		} {
			w := heaptest.Plant(t, kind(), 100, 1)
			w.Root[0] = complete(w, 0, depth, 0)
			w.Right("a complete heap")
			if got := w.A.Get(w.Root[0], api.Rank); got != depth {
				t.Fatalf("P8.1: Rank of a complete heap's root: %d", got)
			}
			leave(w, w.Has[0][at])
			w.Right("one leaves a complete heap")
			w.Drain(0)
		}
	}
}

func TestGreatCompleteHeap(t *testing.T) {
	const depth = 13
	m := heaptest.Mix(11)
	w := heaptest.Greatly(t, kind(), 2*heaptest.Many, 1)
	w.Root[0] = complete(w, 0, depth, 0)
	w.Right("a complete heap")
	for n := range 200 {
		last := w.Root[0] // the one farthest to the right
		for c := last; c != api.None; c = w.A.Cell(c, api.Right) {
			last = c
		}
		i := w.A.Cell(last, api.Item)
		if n%2 == 0 {
			w.Cut(0, i)
		} else {
			w.Fall(0, i, int64(-n))
		}
		w.Cut(0, m.One(w.Has[0]))
	}
	w.Right("Cuts and Falls of a complete heap")
	w.Drain(0)
}

// Two complete heaps of like keys: a Meld goes down both of their ways to the right.
func TestMeldOfCompleteHeaps(t *testing.T) {
	for _, shift := range []int64{-100, -1, 0, 1, 100} {
		w := heaptest.Greatly(t, kind(), 2*heaptest.Many, 2)
		w.Root[0] = complete(w, 0, 12, 0)
		w.Root[1] = complete(w, 1, 12, shift)
		w.Meld(0, 1)
		w.Right("Meld of complete heaps")
		w.Drain(0)
		w.Right("all are popped")
	}
}
