package binomial_test

import (
	"testing"

	"thicket/api"
	"thicket/binomial"
	"thicket/heaptest"
)

// What is another heap's, and a heap's own top nodes as another heap's root: these can be told, so heaps stay as they are.
func TestOfAnotherHeap(t *testing.T) {
	for n := range 20 {
		w := heaptest.Plant(t, kind(), 100, 2)
		w.Add(0, heaptest.Drawn(n)...)
		w.Add(1, heaptest.Drawn(11)...)
		r, s := w.Root[0], w.Root[1]
		w.Stay("calls of what is another heap's", func() {
			for _, i := range w.Has[1] {
				if binomial.Fall(w.A, r, i) != r || binomial.Cut(w.A, r, i) != r {
					t.Errorf("another root is told")
				}
			}
			for _, top := range tops(w, 1) {
				if binomial.Meld(w.A, s, top) != s || binomial.Meld(w.A, top, s) != s {
					t.Errorf("Meld with a top node of it: another root is told")
				}
			}
		})
		w.Right("calls of what is another heap's")
	}
}

// Links and Ranks as no heap has them: calls must end all the same.
func TestLinksOfNoHeap(t *testing.T) {
	const n = 4 // the nodes are 4 to 7
	for what, links := range map[string][][3]int{
		"Ups that lead round":                {{4, api.Up, 5}, {5, api.Up, 6}, {6, api.Up, 4}},
		"a top node behind itself":           {{4, api.Right, 4}},
		"top nodes that lead round":          {{4, api.Right, 5}, {5, api.Rank, 1}, {5, api.Right, 4}},
		"top nodes of one Rank":              {{4, api.Right, 5}, {5, api.Right, 6}, {6, api.Right, 7}},
		"two ways to one tree":               {{4, api.Right, 6}, {5, api.Right, 6}, {6, api.Rank, 1}},
		"two ways to a tree of great Rank":   {{4, api.Right, 6}, {5, api.Right, 6}, {6, api.Rank, 15}},
		"a child of its own":                 {{4, api.Down, 4}, {4, api.Rank, 1}},
		"a child behind itself":              {{4, api.Down, 5}, {4, api.Rank, 2}, {5, api.Rank, 1}, {5, api.Up, 4}, {5, api.Right, 5}},
		"children that lead round":           {{4, api.Down, 5}, {4, api.Rank, 3}, {5, api.Rank, 2}, {5, api.Up, 4}, {5, api.Right, 6}, {6, api.Rank, 1}, {6, api.Up, 4}, {6, api.Right, 5}},
		"a node below two":                   {{4, api.Down, 5}, {4, api.Rank, 2}, {5, api.Rank, 1}, {5, api.Up, 4}, {5, api.Right, 6}, {5, api.Down, 6}, {6, api.Up, 4}},
		"a top node below another one":       {{4, api.Right, 5}, {5, api.Rank, 1}, {5, api.Up, 6}, {5, api.Right, 6}, {6, api.Rank, 2}, {6, api.Down, 5}},
		"children of another node":           {{4, api.Down, 5}, {4, api.Rank, 1}, {5, api.Up, 6}, {6, api.Down, 5}, {6, api.Rank, 1}},
		"a Rank beyond the last":             {{4, api.Rank, 16}, {5, api.Rank, 1 << 40}, {6, api.Rank, heaptest.Highest}},
		"a Rank below the first":             {{4, api.Rank, -1}, {5, api.Rank, -9}, {6, api.Rank, heaptest.Lowest}},
		"two of the last Rank":               {{4, api.Rank, 15}, {5, api.Rank, 15}},
		"a top node of the lowest Rank":      {{4, api.Right, 5}, {5, api.Rank, heaptest.Lowest}, {5, api.Down, 6}, {6, api.Up, 5}},
		"a child of the lowest Rank's":       {{4, api.Rank, heaptest.Lowest}, {4, api.Down, 5}, {5, api.Up, 4}, {5, api.Rank, heaptest.Highest}},
		"a node behind the last child":       {{4, api.Down, 5}, {4, api.Rank, 1}, {5, api.Up, 4}, {5, api.Right, 6}, {6, api.Up, 4}},
		"a top node that is not taken":       {{4, api.Right, 9}, {5, api.Right, 11}},
		"a top node whose item is elsewhere": {{4, api.Right, 5}, {5, api.Rank, 1}, {1, api.Node, 7}},
	} {
		heaptest.LinksOfNoHeap(t, kind(), n, what, links...)
	}
}

// Each node's first child and the next one behind it are one cell, and Ranks fall by one: twice as many ways a level, were both gone.
func TestBothWaysOne(t *testing.T) {
	const n = 80
	a := heaptest.Nodes(n)
	for c := n; c < 2*n; c++ {
		a.Set(c, api.Rank, int64(2*n-c))
		a.Set(c, api.Down, int64(c+1))
		a.Set(c, api.Right, int64(c+1))
		a.Set(c+1, api.Up, int64(c))
	}
	heaptest.Ends(t, "both ways one", func() {
		binomial.All(a, n)
		binomial.Fall(a, n, n-1)
		binomial.Cut(a, n, n-1)
		binomial.Drop(a, n)
	})
}
