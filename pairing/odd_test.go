package pairing_test

import (
	"slices"
	"testing"

	"thicket/api"
	"thicket/arena"
	"thicket/heaptest"
	"thicket/item"
	"thicket/pairing"
)

// children are links that give a node these children, the first one first.
func children(up int, cells ...int) [][3]int {
	l := [][3]int{{up, api.Down, cells[0]}}
	ahead := api.None
	for _, c := range cells {
		l = append(l, [3]int{c, api.Up, up}, [3]int{c, api.Left, ahead})
		if ahead != api.None {
			l = append(l, [3]int{ahead, api.Right, c})
		}
		ahead = c
	}
	return l
}

// Links as no heap has them: calls must end all the same, and All tells no item twice.
func TestLinksOfNoHeap(t *testing.T) {
	const n = 4 // the nodes are 4 to 7
	three := children(4, 5, 6, 7)
	for what, lists := range map[string][][][3]int{
		"a row that leads to its first":      {three, {{7, api.Right, 5}}},
		"a ring of children":                 {three, {{7, api.Right, 5}, {5, api.Left, 7}}},
		"a row that leads to its middle":     {three, {{7, api.Right, 6}}},
		"a child behind itself":              {three, {{6, api.Right, 6}, {6, api.Left, 6}}},
		"a first child behind itself":        {three, {{5, api.Right, 5}, {5, api.Left, 5}}},
		"a link back that is wrong":          {three, {{6, api.Left, 7}}},
		"a first one with one ahead":         {three, {{5, api.Left, 7}}},
		"a Left that is no cell":             {three, {{6, api.Left, 999}, {5, api.Left, 999}}},
		"a Right that is no cell":            {three, {{6, api.Right, 999}}},
		"a Right that is not taken":          {three, {{6, api.Right, 9}}},
		"a Down that is not taken":           {{{4, api.Down, 9}, {5, api.Down, 8}}},
		"a Down that is no cell":             {{{4, api.Down, 999}, {5, api.Down, -7}}},
		"an Up that is not taken":            {three, {{6, api.Up, 9}}},
		"an Up that is an item":              {three, {{6, api.Up, 1}}},
		"a child of its own":                 {{{4, api.Down, 4}}},
		"a child of its own, and its own Up": {three, {{6, api.Up, 6}, {6, api.Down, 6}}},
		"Ups that lead round":                {{{4, api.Up, 5}, {5, api.Up, 6}, {6, api.Up, 4}}},
		"heaps that lead round":              {children(4, 5), children(5, 6), children(6, 4)},
		"heaps that lead round from a root":  {children(4, 5), children(5, 6), children(6, 5)},
		"a root as a child":                  {three, {{5, api.Down, 4}}},
		"a root in a row":                    {three, {{7, api.Right, 4}, {4, api.Left, 7}}},
		"a root with others beside it":       {children(5, 6), {{4, api.Left, 5}, {4, api.Right, 5}, {5, api.Left, 4}, {5, api.Right, 4}}},
		"two nodes above one":                {children(4, 6), children(5, 6)},
		"two nodes above one, the other way": {children(5, 6), children(4, 6), {{6, api.Up, 5}}},
		"two rows that come together":        {children(4, 6, 7), {{5, api.Down, 7}}},
		"a row into another node's":          {children(4, 5), children(5, 6, 7), {{5, api.Right, 6}}},
		"a child that is an item":            {{{4, api.Down, 1}, {1, api.Up, 4}, {1, api.Right, 5}, {5, api.Up, 4}, {5, api.Left, 1}}},
		"a root with a child's item":         {three, {{4, api.Item, 2}}},
		"an item in a node that is not its":  {three, {{2, api.Node, 7}, {1, api.Node, 4}}},
		"an item that is its own node":       {three, {{2, api.Node, 2}, {2, api.Item, 2}}},
	} {
		heaptest.LinksOfNoHeap(t, kind(), n, what, slices.Concat(lists...)...)
	}
}

// Each node's first child and the next one beside it are one cell: twice as many ways a level, were both gone.
func TestBothWaysOne(t *testing.T) {
	const n = 80
	a := heaptest.Nodes(n)
	for c := n; c+1 < 2*n; c++ {
		a.Set(c, api.Down, int64(c+1))
		a.Set(c, api.Right, int64(c+1))
		a.Set(c+1, api.Up, int64(c))
	}
	heaptest.Ends(t, "both ways one", func() {
		pairing.All(a, n)
		pairing.Fall(a, n, n-1)
		pairing.Cut(a, n, n-1)
		kind().Every(a, n, n-1)
	})
}

// The least item of another heap is told from those of this one, so both stay as they are.
func TestOfTheRootOfAnotherHeap(t *testing.T) {
	for n := range 20 {
		w := heaptest.Plant(t, kind(), 100, 2)
		w.Add(0, heaptest.Drawn(n)...)
		w.Add(1, heaptest.Lowest, 6, 7)
		w.Stay("calls of what is another heap's", func() {
			r := w.Root[0]
			if pairing.Fall(w.A, r, w.Least(1)) != r || pairing.Cut(w.A, r, w.Least(1)) != r {
				t.Errorf("another root is told")
			}
		})
		w.Right("calls of what is another heap's")
	}
}

// Of the others nothing is promised, but that calls end.
func TestOfAnotherHeap(t *testing.T) {
	for _, call := range []func(a *arena.Arena, r, i int) int{pairing.Fall, pairing.Cut} {
		for at := range 20 {
			w := heaptest.Plant(t, kind(), 100, 2)
			w.Add(0, heaptest.Drawn(10)...)
			w.Add(1, heaptest.Drawn(21)...)
			w.Pop(1)
			i := w.Has[1][at]
			item.Lower(w.A, i, heaptest.Lowest)
			heaptest.Ends(t, "calls of what is another heap's", func() {
				r := call(w.A, w.Root[0], i)
				kind().Every(w.A, r, i)
				kind().Every(w.A, w.Root[1], i)
			})
		}
	}
}

// A heap and one of its own nodes that is no root: that is taken as no items, so the heap stays as it is.
func TestMeldWithItsOwnNode(t *testing.T) {
	for n := range 12 {
		w := heaptest.Grown(t, kind(), heaptest.Drawn(12)...)
		w.Pop(0)
		r := w.Root[0]
		w.Stay("Meld of a heap with its own node", func() {
			s := item.Node(w.A, w.Has[0][n%11])
			if pairing.Meld(w.A, r, s) != r || pairing.Meld(w.A, s, r) != r {
				t.Errorf("another root is told")
			}
		})
		w.Right("Meld of a heap with its own node")
	}
}
