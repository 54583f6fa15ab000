package fib_test

import (
	"testing"

	"thicket/api"
	"thicket/fib"
	"thicket/heaptest"
)

func kind() heaptest.Kind {
	return heaptest.Kind{
		Chapter: "P12",
		Push:    fib.Push, Min: fib.Min, Pop: fib.Pop, Fall: fib.Fall,
		Cut: fib.Cut, Meld: fib.Meld, All: fib.All, Drop: fib.Drop,
		Shape: shape, Most: most, Together: true,
	}
}

// most is P12.3: what a call adds to what all may take.
func most(call string, n int) int64 {
	switch call {
	case "Push", "Min", "Fall", "Meld":
		return api.A
	}
	return heaptest.Most(call, n)
}

// shape is P12.1 and P12.2.
func shape(w *heaptest.Wood, what string, r int) int {
	w.Helper()
	for _, n := range ring(w, what, r) {
		if w.Compare(w.A.Cell(r, api.Item), w.A.Cell(n, api.Item)) > 0 {
			w.Fatalf("P12.1: %s: the item of top node %d is before that of the root, %d", what, n, r)
		}
	}
	nodes, _ := trees(w, what, r, api.None)
	return nodes
}

// ring are cells from c on, each one's Right the next, till it comes round or there is none.
func ring(w *heaptest.Wood, what string, c int) []int {
	w.Helper()
	var l []int
	for n := c; n != api.None && (n != c || len(l) == 0); n = int(w.A.Get(n, api.Right)) {
		if len(l) > w.A.Cells() {
			w.Fatalf("P12.1: %s: from %d on there is no way round", what, c)
		}
		l = append(l, n)
	}
	return l
}

// trees sees that a ring is of trees below up, and tells how many nodes they have, and how many trees there are.
func trees(w *heaptest.Wood, what string, first, up int) (int, int) {
	w.Helper()
	l, all := ring(w, what, first), 0
	for at, n := range l {
		row := w.Row(n)
		nodes, rank := trees(w, what, int(row[api.Down]), n)
		w.Node(what, n, heaptest.Links{
			Up: int64(up), Down: row[api.Down], Left: int64(l[(at+len(l)-1)%len(l)]), Right: int64(l[(at+1)%len(l)]),
			Rank: int64(rank), Mark: row[api.Mark] & 1,
		})
		if nodes+1 < fewest(rank) {
			w.Fatalf("P12.2: %s: a node of Rank %d has %d nodes below it, at least %d", what, rank, nodes+1, fewest(rank))
		}
		all += nodes + 1
	}
	return all, len(l)
}

// fewest is the Fibonacci number F(k + 2).
func fewest(k int) int {
	n, next := 1, 2
	for range k {
		n, next = next, n+next
	}
	return n
}

func TestAsEveryKind(t *testing.T) {
	for _, test := range heaptest.Tests() {
		t.Run(test.Name, func(t *testing.T) { test.Run(t, kind()) })
	}
}

func TestRun(t *testing.T) {
	w := heaptest.Grown(t, kind(), 2, 1)
	if i := fib.Min(w.A, w.Root[0]); w.Key(i) != 1 {
		t.Errorf("P12: Min: key %d, must be 1", w.Key(i))
	}
}

// Meld of two: the lesser root, whichever is named first.
func TestMeldTellsTheLesserRoot(t *testing.T) {
	for _, keys := range [][2]int64{{1, 2}, {2, 1}, {5, 5}, {heaptest.Lowest, heaptest.Highest}, {heaptest.Highest, heaptest.Lowest}} {
		for h := range 2 {
			w := heaptest.Plant(t, kind(), 8, 2)
			w.Add(0, keys[0])
			w.Add(1, keys[1])
			want := w.Root[0]
			if keys[1] < keys[0] {
				want = w.Root[1]
			}
			w.Meld(h, 1-h)
			if w.Root[h] != want {
				t.Errorf("P12: Meld of %v: %d, must be %d", keys, w.Root[h], want)
			}
		}
	}
}

// A Fall that leaves an item behind its Up's, or behind the root's, changes nothing.
func TestFallThatMovesNothing(t *testing.T) {
	w := heaptest.Grown(t, kind(), heaptest.Drawn(40)...)
	for range 3 {
		for _, i := range w.Has[0] {
			w.Stay("P12: Fall to the same key", func() { w.Fall(0, i, w.Key(i)) })
		}
		root := w.Root[0]
		w.Fall(0, w.Least(0), w.Key(w.Least(0))-1)
		if w.Root[0] != root {
			t.Errorf("P12: Fall of the root's item: %d, must be %d", w.Root[0], root)
		}
		w.Pop(0) // the top ones are few, and have children
	}
}
