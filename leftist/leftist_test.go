package leftist_test

import (
	"testing"

	"thicket/api"
	"thicket/heaptest"
	"thicket/leftist"
)

func kind() heaptest.Kind {
	return heaptest.Kind{
		Chapter: "P8",
		Push:    leftist.Push, Min: leftist.Min, Pop: leftist.Pop, Fall: leftist.Fall,
		Cut: leftist.Cut, Meld: leftist.Meld, All: leftist.All, Drop: leftist.Drop,
		Shape: shape, Most: most,
	}
}

// most is P8.2.
func most(call string, n int) int64 {
	if call == "Min" {
		return api.A
	}
	return heaptest.Most(call, n)
}

// shape is P8.1.
func shape(w *heaptest.Wood, what string, r int) int {
	w.Helper()
	n, _ := below(w, what, int64(r), api.None)
	return n
}

// below tells how many nodes there are from n on, and n's Rank.
func below(w *heaptest.Wood, what string, n, up int64) (int, int64) {
	w.Helper()
	if n == api.None {
		return 0, 0
	}
	row := w.Row(int(n))
	left, high := below(w, what, row[api.Left], n)
	right, low := below(w, what, row[api.Right], n)
	if high < low {
		w.Fatalf("P8.1: %s: node %d: Left of Rank %d, Right of Rank %d", what, n, high, low)
	}
	w.Node(what, int(n), heaptest.Links{Up: up, Down: api.None, Left: row[api.Left], Right: row[api.Right], Rank: low + 1})
	return left + right + 1, low + 1
}

func TestAsEveryKind(t *testing.T) {
	for _, test := range heaptest.Tests() {
		t.Run(test.Name, func(t *testing.T) { test.Run(t, kind()) })
	}
}

func TestRun(t *testing.T) {
	w := heaptest.Grown(t, kind(), 3, 1, 2)
	for _, want := range []int64{1, 2, 3} {
		if got := w.Key(w.Pop(0)); got != want {
			t.Errorf("P8.3: Pop: key %d, must be %d", got, want)
		}
	}
	w.Right("all are popped")
}

// A Fall that leaves an item behind its Up's changes nothing; one of the root tells the root.
func TestFallThatMovesNothing(t *testing.T) {
	w := heaptest.Grown(t, kind(), heaptest.Drawn(40)...)
	for _, i := range w.Has[0] {
		w.Stay("P8: Fall to the same key", func() { w.Fall(0, i, w.Key(i)) })
	}
	root := w.Root[0]
	w.Fall(0, w.Least(0), heaptest.Lowest)
	if w.Root[0] != root {
		t.Errorf("P8: Fall of the root's item: %d, must be %d", w.Root[0], root)
	}
}
