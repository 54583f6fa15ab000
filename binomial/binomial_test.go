package binomial_test

import (
	"slices"
	"testing"

	"thicket/api"
	"thicket/binomial"
	"thicket/heaptest"
)

func kind() heaptest.Kind {
	return heaptest.Kind{
		Chapter: "P9",
		Push:    binomial.Push, Min: binomial.Min, Pop: binomial.Pop, Fall: binomial.Fall,
		Cut: binomial.Cut, Meld: binomial.Meld, All: binomial.All, Drop: binomial.Drop,
		Shape: shape, Most: heaptest.Most,
	}
}

// shape is P9.1, and P9.3 of as many nodes as there are.
func shape(w *heaptest.Wood, what string, r int) int {
	w.Helper()
	nodes := 0
	var got []int64
	for n := int64(r); n != api.None; n = w.A.Get(int(n), api.Right) {
		k := w.A.Get(int(n), api.Rank)
		if len(got) > 0 && k <= got[len(got)-1] {
			w.Fatalf("P9.1: %s: the tree %d, of Rank %d, is behind those of Ranks %v", what, n, k, got)
		}
		nodes += tree(w, what, n, api.None, k)
		got = append(got, k)
	}
	if want := digits(nodes); !slices.Equal(got, want) {
		w.Fatalf("P9.3: %s: the Ranks of %d items: %v, must be %v", what, nodes, got, want)
	}
	return nodes
}

// tree sees that n is a tree of Rank k, and tells how many nodes it has.
func tree(w *heaptest.Wood, what string, n, up, k int64) int {
	w.Helper()
	row := w.Row(int(n))
	w.Node(what, int(n), heaptest.Links{Up: up, Down: row[api.Down], Left: api.None, Right: row[api.Right], Rank: k})
	nodes, c := 1, row[api.Down]
	for rank := k - 1; rank >= 0; rank-- {
		nodes += tree(w, what, c, n, rank)
		c = w.A.Get(int(c), api.Right)
	}
	if c != api.None {
		w.Fatalf("P9.1: %s: behind the last child of node %d comes %d", what, n, c)
	}
	return nodes
}

// digits are the Ranks that n items must have.
func digits(n int) []int64 {
	var l []int64
	for k := range int64(20) {
		if n>>k&1 == 1 {
			l = append(l, k)
		}
	}
	return l
}

// tops are a heap's top nodes.
func tops(w *heaptest.Wood, h int) []int {
	var l []int
	for n := w.Root[h]; n != api.None; n = w.A.Cell(n, api.Right) {
		l = append(l, n)
	}
	return l
}

func TestAsEveryKind(t *testing.T) {
	for _, test := range heaptest.Tests() {
		t.Run(test.Name, func(t *testing.T) { test.Run(t, kind()) })
	}
}

func TestRun(t *testing.T) {
	for n, want := range [][]int64{{}, {0}, {1}, {0, 1}, {2}, {0, 2}, {1, 2}, {0, 1, 2}, {3}} {
		for _, l := range heaptest.Orders(n) {
			w := heaptest.Grown(t, kind(), l.Keys...)
			var got []int64
			for _, top := range tops(w, 0) {
				got = append(got, w.A.Get(top, api.Rank))
			}
			if !slices.Equal(got, want) {
				t.Errorf("P9.3: Push %d %s keys: Ranks %v, must be %v", n, l.How, got, want)
			}
		}
	}
}

// A heap of each size comes to have one item more, and one less by each way.
func TestDigits(t *testing.T) {
	m := heaptest.Mix(20)
	ways := []func(w *heaptest.Wood){
		func(w *heaptest.Wood) { w.Add(0, int64(m.Next())) },
		func(w *heaptest.Wood) { w.Pop(0) },
		func(w *heaptest.Wood) { w.Cut(0, m.One(w.Has[0])) },
		func(w *heaptest.Wood) { w.Fall(0, m.One(w.Has[0]), heaptest.Lowest) },
		func(w *heaptest.Wood) { w.Drop(0) },
	}
	for n := 1; n < 70; n++ {
		for _, way := range ways {
			w := heaptest.Grown(t, kind(), heaptest.Drawn(n)...)
			w.Right("Push")
			way(w)
			w.Right("a call")
		}
	}
}

// Sums of all small numbers: no digit, one, two or three of each Rank.
func TestMeldOfAllSizes(t *testing.T) {
	for n := range 36 {
		for o := range 36 {
			w := heaptest.Plant(t, kind(), 150, 2)
			w.Add(0, heaptest.Drawn(n)...)
			w.Add(1, heaptest.Drawn(o)...)
			w.Meld(0, 1)
			w.Right("Meld")
		}
	}
}

// Each item of a tree and of its neighbours leaves from where it is, or comes to each place above.
func TestEachPlace(t *testing.T) {
	for _, n := range []int{15, 16, 17, 31, 32} {
		for at := range n {
			grown := func() *heaptest.Wood { return heaptest.Grown(t, kind(), heaptest.Drawn(n)...) }
			w := grown()
			w.Cut(0, w.Has[0][at])
			w.Right("Cut")
			for _, over := range w.Has[0] {
				w := grown()
				i := w.Has[0][at]
				w.Fall(0, i, min(w.Key(i), w.Key(over)))
				w.Right("Fall to another one's key")
				w.Fall(0, i, min(w.Key(i), max(w.Key(over), heaptest.Lowest+1)-1))
				w.Right("Fall below another one")
			}
		}
	}
}

// Items change their nodes, so roots stay; a Fall that leaves an item behind its Up's changes nothing.
func TestFallTellsTheSameRoot(t *testing.T) {
	for n := 1; n < 40; n++ {
		w := heaptest.Grown(t, kind(), heaptest.Drawn(n)...)
		root := w.Root[0]
		for _, i := range w.Has[0] {
			w.Stay("P9: Fall to the same key", func() { w.Fall(0, i, w.Key(i)) })
			w.Fall(0, i, heaptest.Lowest)
			if w.Root[0] != root {
				t.Fatalf("P9: Fall: the root %d, must be %d", w.Root[0], root)
			}
		}
		w.Right("Fall of all")
	}
}

// all is how many items there are at most, and one less has as many trees as there may be.
const all = api.MaxCells / 2

// mustTake makes one call of a heap, which has so many trees then.
func mustTake(w *heaptest.Wood, what string, trees int, call func()) {
	w.Helper()
	call()
	w.Right(what)
	if got := len(tops(w, 0)); got != trees {
		w.Fatalf("P9.3: %s: %d trees, must be %d", what, got, trees)
	}
}

// The most trees there may be, and the longest carry: all of them become one. Min keeps to A here too, as of leftist heaps.
func TestMostTrees(t *testing.T) {
	for _, l := range heaptest.Orders(all) {
		k := kind()
		k.Most = func(call string, n int) int64 {
			if call == "Min" {
				return api.A
			}
			return heaptest.Most(call, n)
		}
		w := heaptest.Greatly(t, k, api.MaxCells, 1)
		mustTake(w, "Push of all but one", 15, func() { w.Add(0, l.Keys[:all-1]...) })
		mustTake(w, "Push of the last one", 1, func() { w.Add(0, l.Keys[all-1]) })
		mustTake(w, "Fall of the first one", 1, func() { w.Fall(0, w.Has[0][0], heaptest.Lowest) })
		mustTake(w, "Fall of the last one", 1, func() { w.Fall(0, w.Has[0][all-1], heaptest.Lowest) })
		mustTake(w, "Pop", 15, func() { w.Pop(0) })
		mustTake(w, "Push again", 1, func() { w.Push(0, w.Out[0]) })
		mustTake(w, "Cut", 15, func() { w.Cut(0, w.Has[0][all/2]) })
		mustTake(w, "Drop", 0, func() { w.Drop(0) })
	}
}

// Heaps of all trees but the last: a Meld carries at each Rank.
func TestMeldOfAllTrees(t *testing.T) {
	for _, l := range heaptest.Orders(all) {
		w := heaptest.Greatly(t, kind(), api.MaxCells, 2)
		w.Add(0, l.Keys[:all/2-1]...)
		w.Add(1, l.Keys[all/2:all-1]...)
		mustTake(w, "Meld", 14, func() { w.Meld(0, 1) })
	}
}
