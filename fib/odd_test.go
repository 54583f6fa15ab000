package fib_test

import (
	"testing"

	"thicket/api"
	"thicket/arena"
	"thicket/fib"
	"thicket/heaptest"
	"thicket/item"
)

// around are links that make cells a ring.
func around(cells ...int) [][3]int {
	var l [][3]int
	for at, c := range cells {
		d := cells[(at+1)%len(cells)]
		l = append(l, [3]int{c, api.Right, d}, [3]int{d, api.Left, c})
	}
	return l
}

// set are links that give cells one thing in a field.
func set(field, v int, cells ...int) [][3]int {
	var l [][3]int
	for _, c := range cells {
		l = append(l, [3]int{c, field, v})
	}
	return l
}

// Links, Ranks and Marks as no heap has them: calls must end all the same.
func TestLinksOfNoHeap(t *testing.T) {
	const n = 4 // the nodes are 4 to 7
	tops := around(4, 5, 6, 7)
	for what, lists := range map[string][][][3]int{
		"no ring at all":                  {set(api.Rank, 0, 4, 5, 6, 7)},
		"a ring with an end":              {tops, {{6, api.Right, api.None}}},
		"a ring with a way in":            {around(5, 6, 7), {{4, api.Right, 5}}},
		"a ring with one link back wrong": {tops, {{6, api.Left, 4}}},
		"Ups that lead round":             {tops, {{4, api.Up, 5}, {5, api.Up, 6}, {6, api.Up, 4}}, set(api.Mark, 1, 4, 5, 6)},
		"Ups that lead round, no Mark":    {tops, {{4, api.Up, 5}, {5, api.Up, 6}, {6, api.Up, 4}}},
		"an Up of its own":                {tops, {{5, api.Up, 5}}, set(api.Mark, 1, 5)},
		"a child of its own":              {tops, {{5, api.Down, 5}, {5, api.Rank, 1}}},
		"a child and its own Up":          {around(4), around(5), {{4, api.Down, 5}, {5, api.Up, 4}, {5, api.Down, 5}}},
		"a top one as a child":            {tops, {{4, api.Down, 6}}, set(api.Rank, 1, 4)},
		"a child among the top ones":      {tops, {{4, api.Down, 6}, {6, api.Up, 4}}, set(api.Rank, 1, 4)},
		"two nodes above one":             {around(4, 5), around(6, 7), set(api.Down, 6, 4, 5), set(api.Up, 4, 6, 7)},
		"children of two in a ring":       {around(4, 5), around(6, 7), {{4, api.Down, 6}, {6, api.Up, 4}, {5, api.Down, 7}, {7, api.Up, 5}}},
		"children that are their Up's Up": {around(4, 5), around(6, 7), {{4, api.Down, 6}, {6, api.Up, 4}, {6, api.Down, 4}}},
		"great Ranks":                     {tops, set(api.Rank, 21, 4, 5, 6, 7)},
		"Ranks that there are not":        {tops, set(api.Rank, 22, 4, 5, 6, 7)},
		"Ranks below none":                {tops, set(api.Rank, -1, 4, 5, 6, 7)},
		"the greatest Ranks":              {tops, set(api.Rank, heaptest.Highest, 4, 5, 6, 7)},
		"the least Ranks":                 {tops, set(api.Rank, heaptest.Lowest, 4, 5, 6, 7)},
		"Marks of any size":               {around(4), around(5), around(6), {{4, api.Down, 5}, {5, api.Up, 4}, {5, api.Down, 6}, {6, api.Up, 5}}, set(api.Mark, heaptest.Lowest, 4, 5, 6)},
		"an Up that is not taken":         {tops, set(api.Up, 9, 5, 6)},
		"a Down that is not taken":        {tops, set(api.Down, 9, 5, 6), set(api.Rank, 1, 5, 6)},
	} {
		var links [][3]int
		for _, l := range lists {
			links = append(links, l...)
		}
		heaptest.LinksOfNoHeap(t, kind(), n, what, links...)
	}
}

// Many nodes whose Ups lead round, all with a Mark: a Fall of one goes once round.
func TestLongUpsThatLeadRound(t *testing.T) {
	const n = 5000
	for _, call := range []func(a *arena.Arena, r, i int) int{fib.Fall, fib.Cut} {
		a := heaptest.Nodes(n)
		for c := n + 1; c < 2*n; c++ {
			up := c + 1
			if up == 2*n {
				up = n + 1
			}
			a.Set(c, api.Up, int64(up))
			a.Set(c, api.Mark, 1)
		}
		item.Lower(a, n-1, heaptest.Lowest)
		heaptest.Ends(t, "Ups that lead round", func() {
			call(a, n, n-1)
			kind().Every(a, n, n-1)
		})
	}
}

// Of nodes that are not in the heap that is named nothing is promised, but that calls end.
func TestOfAnotherHeap(t *testing.T) {
	for _, call := range []func(a *arena.Arena, r, i int) int{fib.Fall, fib.Cut} {
		for at := range 20 {
			w := heaptest.Plant(t, kind(), 100, 2)
			w.Add(0, heaptest.Drawn(10)...)
			w.Add(1, heaptest.Drawn(21)...)
			w.Pop(1)
			i := w.Has[1][at]
			item.Lower(w.A, i, heaptest.Lowest)
			heaptest.Ends(t, "calls of what is another heap's", func() {
				r := call(w.A, w.Root[0], i)
				kind().Every(w.A, r, i)
				kind().Every(w.A, w.Root[1], i)
			})
		}
	}
}

// Of one heap's top nodes a Meld makes two heaps, perhaps, but it ends, and later calls do.
func TestMeldOfOneHeap(t *testing.T) {
	for n := range 12 {
		w := heaptest.Grown(t, kind(), heaptest.Drawn(12)...)
		r, s := w.Root[0], item.Node(w.A, w.Has[0][n])
		heaptest.Ends(t, "a Meld of one heap", func() {
			q := fib.Meld(w.A, r, s)
			fib.Pop(w.A, q)
			kind().Every(w.A, s, r)
			kind().Every(w.A, r, s)
		})
	}
}
