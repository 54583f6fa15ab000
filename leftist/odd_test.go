package leftist_test

import (
	"testing"

	"thicket/api"
	"thicket/arena"
	"thicket/heaptest"
	"thicket/item"
	"thicket/leftist"
)

// The least item of another heap can be told, so both heaps stay as they are.
func TestOfAnotherHeap(t *testing.T) {
	for n := range 20 {
		w := heaptest.Plant(t, kind(), 100, 2)
		w.Add(0, heaptest.Drawn(n)...)
		w.Add(1, heaptest.Lowest, 6, 7)
		w.Stay("calls of what is another heap's", func() {
			r := w.Root[0]
			if leftist.Fall(w.A, r, w.Least(1)) != r || leftist.Cut(w.A, r, w.Least(1)) != r {
				t.Errorf("another root is told")
			}
		})
		w.Right("calls of what is another heap's")
	}
}

// One cell in both places of each node, from the first to the last: twice as many ways a level, were both gone.
func TestBothChildrenOne(t *testing.T) {
	const n = 80
	a := heaptest.Nodes(n)
	for c := n; c+1 < 2*n; c++ {
		a.Set(c, api.Left, int64(c+1))
		a.Set(c, api.Right, int64(c+1))
		a.Set(c+1, api.Up, int64(c))
		a.Set(c, api.Rank, int64(2*n-c))
	}
	heaptest.Ends(t, "both children one", func() {
		leftist.All(a, n)
		leftist.Fall(a, n, n-1)
		leftist.Drop(a, n)
	})
}

// Ups that lead round, past children of great Ranks: Ranks there may rise for as long as they are gone round.
func TestUpsThatLeadRound(t *testing.T) {
	for _, great := range []int64{1 << 40, heaptest.Highest - 1, heaptest.Highest, heaptest.Lowest, -1} {
		for _, call := range []func(a *arena.Arena, r, i int) int{leftist.Fall, leftist.Cut} {
			a := heaptest.Nodes(6)
			for _, l := range [][3]int{{7, api.Left, 8}, {8, api.Left, 7}, {7, api.Right, 9}, {8, api.Right, 10}} {
				a.Set(l[0], l[1], int64(l[2]))
				a.Set(l[2], api.Up, int64(l[0]))
			}
			a.Set(9, api.Rank, great)
			a.Set(10, api.Rank, great)
			a.Set(11, api.Up, 7) // of item 5; 6 is a root
			item.Lower(a, 5, -1)
			heaptest.Ends(t, "Ups that lead round", func() { call(a, 6, 5) })
		}
	}
}

// A root that is in a ring, and an item of another place.
func TestRootInARing(t *testing.T) {
	for _, field := range []int{api.Left, api.Right} {
		a := heaptest.Nodes(4)
		for _, l := range [][3]int{{4, field, 5}, {5, field, 4}, {6, api.Left, 7}} {
			a.Set(l[0], l[1], int64(l[2]))
			a.Set(l[2], api.Up, int64(l[0]))
		}
		item.Lower(a, 3, -1)
		heaptest.Ends(t, "a root in a ring", func() {
			leftist.Fall(a, 4, 3)
			kind().Every(a, 4, 3)
		})
	}
}
