package skew_test

import (
	"testing"

	"thicket/api"
	"thicket/heaptest"
	"thicket/skew"
	"thicket/tree"
)

// What is another heap's, and a heap's own top nodes as another heap's root: these can be told, so heaps stay as they are.
func TestOfAnotherHeap(t *testing.T) {
	for n := range 20 {
		w := heaptest.Plant(t, kind(), 100, 2)
		w.Add(0, heaptest.Drawn(n)...)
		w.Add(1, heaptest.Drawn(12)...)
		r, s := w.Root[0], w.Root[1]
		w.Stay("calls of what is another heap's", func() {
			for _, i := range w.Has[1] {
				if skew.Fall(w.A, r, i) != r || skew.Cut(w.A, r, i) != r {
					t.Errorf("another root is told")
				}
			}
			for _, top := range tops(w, 1) {
				if skew.Meld(w.A, s, top) != s || skew.Meld(w.A, top, s) != s {
					t.Errorf("Meld with a top node of it: another root is told")
				}
			}
		})
		w.Right("calls of what is another heap's")
	}
}

// Links and Ranks as no heap has them: calls must end all the same.
func TestLinksOfNoHeap(t *testing.T) {
	const n = 4 // the nodes are 4 to 7
	for what, links := range map[string][][3]int{
		"Ups that lead round":                   {{4, api.Up, 5}, {5, api.Up, 6}, {6, api.Up, 4}},
		"a top node behind itself":              {{4, api.Right, 4}},
		"two top nodes that lead round":         {{4, api.Right, 5}, {5, api.Right, 4}},
		"top nodes that lead round":             {{4, api.Right, 5}, {5, api.Rank, 1}, {5, api.Right, 4}},
		"top nodes of one Rank":                 {{4, api.Right, 5}, {5, api.Right, 6}, {6, api.Right, 7}},
		"later top nodes of one Rank":           {{4, api.Right, 5}, {5, api.Rank, 1}, {5, api.Right, 6}, {6, api.Rank, 1}},
		"two ways to one tree":                  {{4, api.Right, 6}, {5, api.Right, 6}, {6, api.Rank, 1}},
		"two ways to a tree of great Rank":      {{4, api.Right, 6}, {5, api.Right, 6}, {6, api.Rank, 15}},
		"a child of its own":                    {{4, api.Down, 4}, {4, api.Rank, 1}},
		"a child behind itself":                 {{4, api.Down, 5}, {4, api.Rank, 2}, {5, api.Rank, 1}, {5, api.Up, 4}, {5, api.Right, 5}},
		"a single child behind itself":          {{4, api.Down, 5}, {4, api.Rank, 1}, {5, api.Up, 4}, {5, api.Right, 5}},
		"children that lead round":              {{4, api.Down, 5}, {4, api.Rank, 3}, {5, api.Rank, 2}, {5, api.Up, 4}, {5, api.Right, 6}, {6, api.Rank, 1}, {6, api.Up, 4}, {6, api.Right, 5}},
		"single children that lead round":       {{4, api.Down, 5}, {4, api.Rank, 1}, {5, api.Up, 4}, {5, api.Right, 6}, {6, api.Up, 4}, {6, api.Right, 5}},
		"a node below two":                      {{4, api.Down, 5}, {4, api.Rank, 2}, {5, api.Rank, 1}, {5, api.Up, 4}, {5, api.Right, 6}, {5, api.Down, 6}, {6, api.Up, 4}},
		"a top node below another one":          {{4, api.Right, 5}, {5, api.Rank, 1}, {5, api.Up, 6}, {5, api.Right, 6}, {6, api.Rank, 2}, {6, api.Down, 5}},
		"a top node of one Rank below the root": {{4, api.Right, 5}, {4, api.Down, 5}, {5, api.Up, 4}},
		"children of another node":              {{4, api.Down, 5}, {4, api.Rank, 1}, {5, api.Up, 6}, {6, api.Down, 5}, {6, api.Rank, 1}},
		"a Rank beyond the last":                {{4, api.Rank, 16}, {5, api.Rank, 1 << 40}, {6, api.Rank, heaptest.Highest}},
		"two of a Rank beyond the last":         {{4, api.Right, 5}, {4, api.Rank, heaptest.Highest}, {5, api.Rank, heaptest.Highest}},
		"a Rank below the first":                {{4, api.Rank, -1}, {5, api.Rank, -9}, {6, api.Rank, heaptest.Lowest}},
		"a Rank of None":                        {{4, api.Rank, -1}, {4, api.Right, 12}},
		"a Rank of None ahead of a top node":    {{4, api.Rank, -1}, {4, api.Right, 5}, {5, api.Rank, -1}},
		"two of the last Rank":                  {{4, api.Rank, 15}, {5, api.Rank, 15}},
		"two of the last Rank in one heap":      {{4, api.Right, 5}, {4, api.Rank, 15}, {5, api.Rank, 15}},
		"a top node of the lowest Rank":         {{4, api.Right, 5}, {5, api.Rank, heaptest.Lowest}, {5, api.Down, 6}, {6, api.Up, 5}},
		"a child of the lowest Rank":            {{4, api.Rank, 1}, {4, api.Down, 5}, {5, api.Up, 4}, {5, api.Rank, heaptest.Lowest}},
		"a child of the lowest Rank's":          {{4, api.Rank, heaptest.Lowest}, {4, api.Down, 5}, {5, api.Up, 4}, {5, api.Rank, heaptest.Highest}},
		"a child of Rank 0 with children":       {{4, api.Rank, 1}, {4, api.Down, 5}, {5, api.Up, 4}, {5, api.Right, 6}, {5, api.Down, 7}, {6, api.Up, 4}, {7, api.Up, 5}},
		"a node behind the last child":          {{4, api.Down, 5}, {4, api.Rank, 1}, {5, api.Up, 4}, {5, api.Right, 6}, {6, api.Up, 4}},
		"a top node that is not taken":          {{4, api.Right, 9}, {5, api.Right, 11}},
		"a top node that is an item":            {{4, api.Right, 3}, {5, api.Right, 0}},
		"a child that is an item":               {{4, api.Down, 3}, {3, api.Up, 4}, {3, api.Right, 5}, {5, api.Up, 4}},
		"a top node whose item is elsewhere":    {{4, api.Right, 5}, {5, api.Rank, 1}, {1, api.Node, 7}},
	} {
		heaptest.LinksOfNoHeap(t, kind(), n, what, links...)
	}
}

// Each node's first child and the next one behind it are one cell, and Ranks fall by one: twice as many ways a level, were both gone.
func TestBothWaysOne(t *testing.T) {
	const n = 80
	a := heaptest.Nodes(n)
	for c := n; c < 2*n; c++ {
		a.Set(c, api.Rank, int64(2*n-c))
		a.Set(c, api.Down, int64(c+1))
		a.Set(c, api.Right, int64(c+1))
		a.Set(c+1, api.Up, int64(c))
	}
	heaptest.Ends(t, "both ways one", func() {
		skew.All(a, n)
		skew.Fall(a, n, n-1)
		skew.Cut(a, n, n-1)
		skew.Drop(a, n)
	})
}

// More children than any tree has, in a row or in a ring: they are not all gone through.
func TestTooManyChildren(t *testing.T) {
	const n = api.MaxCells / 3
	for _, last := range []int{api.None, n + 1, n + n/2} {
		heaptest.Ends(t, "too many children", func() {
			a := heaptest.Nodes(n)
			a.Set(n, api.Down, n+1)
			a.Set(n, api.Rank, 15)
			for c := n + 1; c < 2*n; c++ {
				a.Set(c, api.Up, n)
				a.Set(c, api.Right, int64(c+1))
			}
			a.Set(2*n-1, api.Right, int64(last))
			if l := skew.All(a, n); len(l) > 1+2*tree.Ranks {
				t.Errorf("All of too many children: %d items", len(l))
			}
			kind().Every(a, n, 1)
		})
	}
}
