package fib_test

import (
	"slices"
	"testing"

	"thicket/api"
	"thicket/fib"
	"thicket/heaptest"
	"thicket/item"
)

// over is the item above another one, None of a top one's.
func over(w *heaptest.Wood, i int) int {
	return w.A.Cell(w.A.Cell(item.Node(w.A, i), api.Up), api.Item)
}

// below are the items below another one, by rising Ranks.
func below(w *heaptest.Wood, i int) []int {
	w.Helper()
	var l []int
	for _, n := range ring(w, "children", w.A.Cell(item.Node(w.A, i), api.Down)) {
		l = append(l, w.A.Cell(n, api.Item))
	}
	slices.SortFunc(l, func(i, j int) int { return int(rank(w, i) - rank(w, j)) })
	return l
}

func rank(w *heaptest.Wood, i int) int64 { return w.A.Get(item.Node(w.A, i), api.Rank) }

func mark(w *heaptest.Wood, i int) int64 { return w.A.Get(item.Node(w.A, i), api.Mark) }

// deeper puts a new item above a tree of Rank 2 that is alone, beside a leaf: that is one of Rank 2 again. It tells the leaf.
func deeper(w *heaptest.Wood, key int64) int {
	w.Helper()
	w.Add(0, key, key+1, key+2, key+3, key+4)
	w.Pop(0)
	l := below(w, w.Least(0)) // of Rank 0, of Rank 1, and what was there before
	w.Cut(0, below(w, l[1])[0])
	w.Cut(0, l[1])
	return l[0]
}

// A long way up of nodes that have a Mark: one Fall makes all of them top ones. It takes more steps than other Falls, but all calls together do not.
func TestLongWayUp(t *testing.T) {
	const depth = 2000
	w := heaptest.Greatly(t, kind(), api.MaxCells, 1)
	w.Add(0, 1, 2, 3, 4, 5)
	w.Pop(0)
	lowest := w.Least(0)
	var leaves []int
	for n := range int64(depth) {
		leaves = append(leaves, deeper(w, -5*n-5))
	}
	w.Right("a long way up")
	for at, leaf := range leaves[:depth-1] { // but that of the root
		w.Fall(0, leaf, heaptest.Lowest+int64(at))
	}
	w.Right("each has lost a leaf")
	if n := len(ring(w, "top ones", w.Root[0])); n != depth {
		t.Fatalf("P12.1: %d top ones, must be %d", n, depth)
	}
	was := w.A.Meter().Steps()
	w.Fall(0, lowest, heaptest.Lowest)
	if got := w.A.Meter().Steps() - was; got <= api.A {
		t.Errorf("P12.1: one Fall of %d nodes: %d steps", depth, got)
	}
	w.Right("a Fall of all")
	if n := len(ring(w, "top ones", w.Root[0])); n != 2*depth {
		t.Errorf("P12.1: %d top ones, must be %d", n, 2*depth)
	}
	w.Pop(0)
	w.Right("Pop")
	w.Drain(0)
}

// How many top ones there are makes no difference to Push, Min, Fall and Meld.
func TestManyTopOnes(t *testing.T) {
	const many = 1 << 14
	calls := []func(w *heaptest.Wood, at int){
		func(w *heaptest.Wood, at int) { w.Fall(0, w.Has[0][at], int64(-at)) },
		func(w *heaptest.Wood, at int) { w.Fall(0, w.Has[0][at], w.Key(w.Has[0][at])) },
		func(w *heaptest.Wood, at int) { w.Add(1, int64(-at)); w.Meld(0, 1) },
		func(w *heaptest.Wood, at int) { w.Add(1, int64(at)); w.Meld(1, 0); w.Meld(0, 1) },
		func(w *heaptest.Wood, at int) { w.Within("Min", many, func() { fib.Min(w.A, w.Root[0]) }) },
		func(w *heaptest.Wood, at int) { w.Add(0, int64(many-at)) },
	}
	for _, call := range calls {
		w := heaptest.Greatly(t, kind(), api.MaxCells, 2)
		w.Add(0, heaptest.Each(many, func(at int) int64 { return int64(at) })...)
		for at := range many / 2 {
			call(w, at)
		}
		w.Right("calls of many top ones")
		w.Pop(0)
		w.Right("Pop of many top ones")
		w.Drain(0)
	}
}

// trim makes each child that has lost none lose its greatest one.
func trim(w *heaptest.Wood, key int64) int64 {
	w.Helper()
	for _, i := range w.Has[0] {
		l := below(w, i)
		if len(l) > 0 && over(w, i) != api.None && mark(w, i) == 0 {
			key--
			w.Fall(0, l[len(l)-1], key)
		}
	}
	return key
}

// Trees of as few nodes as any of their Ranks: F(k + 2). One that loses one more goes.
func TestFewestNodes(t *testing.T) {
	for k := range 13 {
		w := heaptest.Greatly(t, kind(), 4<<k+8, 1)
		w.Add(0, heaptest.Each(1<<k+1, func(at int) int64 { return int64(at) })...)
		w.Pop(0)
		r := w.Least(0)
		trim(w, 0)
		w.Right("as few as may be")
		if n := size(w, r); rank(w, r) != int64(k) || n != fewest(k) {
			t.Fatalf("P12.2: of Rank %d: %d nodes, the fewest are %d of Rank %d", rank(w, r), n, fewest(k), k)
		}
		m := heaptest.Mix(32)
		for n := range 100 {
			w.Fall(0, m.One(w.Has[0]), heaptest.Lowest+int64(100-n))
			w.Right("one more leaves")
		}
		w.Drain(0)
	}
}

// size is how many items a tree has.
func size(w *heaptest.Wood, i int) int {
	w.Helper()
	n := 1
	for _, j := range below(w, i) {
		n += size(w, j)
	}
	return n
}

// As many items as there may be, in trees of as few nodes as may be: so Ranks become as great as any.
func TestGreatestRanks(t *testing.T) {
	w := heaptest.Greatly(t, kind(), api.MaxCells, 1)
	w.Add(0, heaptest.Drawn(api.MaxCells/2-1)...)
	greatest, key := int64(0), w.Key(w.Least(0))
	for range 6 {
		key = trim(w, key)
		w.Right("trees of few nodes")
		w.Cut(0, w.Least(0))
		w.Right("Ranks that rise")
		for _, c := range ring(w, "top ones", w.Root[0]) {
			greatest = max(greatest, w.A.Get(c, api.Rank))
		}
	}
	if greatest < 19 {
		t.Errorf("the greatest Rank: %d", greatest)
	}
	w.Drain(0)
}
