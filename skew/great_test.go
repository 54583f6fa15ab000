package skew_test

import (
	"testing"

	"thicket/api"
	"thicket/heaptest"
	"thicket/skew"
)

// all is how many items there are at most. One less is a single tree, of Rank 14, with single children wherever there may be one.
const all = api.MaxCells / 2

// mostTrees is how many items pushes make the most trees of: one of each Rank, of the first one two.
const mostTrees = 1<<15 - 2 - 14 + 1

// mustTake makes one call of a heap, which has so many trees then.
func mustTake(w *heaptest.Wood, what string, trees int, call func()) {
	w.Helper()
	call()
	w.Right(what)
	if got := len(tops(w, 0)); got != trees {
		w.Fatalf("P11.1: %s: %d trees, must be %d", what, got, trees)
	}
}

// The greatest tree with all its single children: a Pop pushes fourteen again.
func TestMostSingleChildren(t *testing.T) {
	for _, l := range heaptest.Orders(all) {
		w := heaptest.Greatly(t, kind(), api.MaxCells, 1)
		mustTake(w, "Push of all but one", 1, func() { w.Add(0, l.Keys[:all-1]...) })
		mustTake(w, "Fall of the first one", 1, func() { w.Fall(0, w.Has[0][0], heaptest.Lowest) })
		mustTake(w, "Fall of the last one", 1, func() { w.Fall(0, w.Has[0][all-2], heaptest.Lowest) })
		w.Pop(0)
		w.Right("Pop")
		w.Push(0, w.Out[0])
		w.Add(0, l.Keys[all-1])
		w.Right("Push of all")
		w.Cut(0, w.Has[0][all/2])
		w.Right("Cut")
		mustTake(w, "Drop", 0, func() { w.Drop(0) })
	}
}

// deepest is an item with as many nodes above it as any: the first child, or the one behind it, is the one of the greatest Rank.
func deepest(w *heaptest.Wood, h int) int {
	l := tops(w, h)
	deepest := l[len(l)-1]
	for c := deepest; c != api.None; c = w.A.Cell(c, api.Down) {
		if next := w.A.Cell(c, api.Right); next != api.None && w.A.Get(next, api.Rank) > w.A.Get(c, api.Rank) {
			c = next
		}
		deepest = c
	}
	return w.A.Cell(deepest, api.Item)
}

// The deepest item of a great tree leaves, or comes to be the root's.
func mustMoveDeepest(w *heaptest.Wood) {
	w.Helper()
	for range 10 {
		w.Fall(0, deepest(w, 0), heaptest.Lowest)
		w.Right("Fall of the deepest")
	}
	for range 10 {
		w.Cut(0, deepest(w, 0))
		w.Right("Cut of the deepest")
	}
}

func TestDeepest(t *testing.T) {
	w := heaptest.Greatly(t, kind(), api.MaxCells, 1)
	w.Add(0, heaptest.Drawn(all-1)...)
	mustMoveDeepest(w)
}

// melded is a heap of 2^k items that came by Melds alone: a tree without single children.
func melded(w *heaptest.Wood, m *heaptest.Mixed, k int) int {
	w.Helper()
	if k > 0 {
		return skew.Meld(w.A, melded(w, m, k-1), melded(w, m, k-1))
	}
	i := w.Fresh(int64(m.Next()), 0)
	w.Has[0], w.Out = append(w.Has[0], i), nil
	r, _ := skew.Push(w.A, api.None, i)
	return r
}

// All items in one tree of the greatest Rank, as deep as any may be.
func TestGreatestRank(t *testing.T) {
	w := heaptest.Greatly(t, kind(), api.MaxCells, 1)
	mustTake(w, "Meld of all", 1, func() { w.Root[0] = melded(w, heaptest.Mix(24), 15) })
	mustRanks(w, "Meld of all", 15)
	mustMoveDeepest(w)
	w.Pop(0)
	w.Right("Pop")
	for len(w.Out) > 0 {
		w.Push(0, w.Out[0])
	}
	w.Right("Push of all again")
}

// Behind the most trees each Push makes one of the first two.
func TestMostTrees(t *testing.T) {
	for _, l := range heaptest.Orders(mostTrees) {
		w := heaptest.Greatly(t, kind(), api.MaxCells, 1)
		mustTake(w, "Push of the most trees", 15, func() { w.Add(0, l.Keys...) })
		for left := 14; left > 1; left-- {
			mustTake(w, "Push into the most trees", left, func() { w.Add(0, 0) })
		}
	}
}

func TestPopOfMostTrees(t *testing.T) {
	for _, l := range heaptest.Orders(mostTrees) {
		w := heaptest.Greatly(t, kind(), api.MaxCells, 1)
		mustTake(w, "Push of the most trees", 15, func() { w.Add(0, l.Keys...) })
		w.Cut(0, w.Has[0][mostTrees/2])
		w.Right("Cut")
		w.Pop(0)
		w.Right("Pop")
	}
}

// Two heaps of the most trees: a Meld carries at each Rank.
func TestMeldOfMostTrees(t *testing.T) {
	const half = 1<<14 - 2 - 13 + 1
	for _, l := range heaptest.Orders(2 * half) {
		w := heaptest.Greatly(t, kind(), api.MaxCells, 2)
		w.Add(0, l.Keys[:half]...)
		w.Add(1, l.Keys[half:]...)
		if got := [2]int{len(tops(w, 0)), len(tops(w, 1))}; got != [2]int{14, 14} {
			t.Fatalf("P11.1: Push of the most trees: %v", got)
		}
		w.Meld(0, 1)
		w.Right("Meld")
		w.Pop(0)
		w.Right("Pop of what was melded")
	}
}
