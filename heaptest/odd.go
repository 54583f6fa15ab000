package heaptest

import (
	"slices"
	"strconv"

	"thicket/api"
	"thicket/arena"
	"thicket/item"
)

// Ends runs calls of which nothing is promised but that they end and do not panic.
func Ends(t T, what string, calls func()) {
	t.Helper()
	defer func() {
		t.Helper()
		if r := recover(); r != nil {
			t.Fatalf("R1: %s: a panic: %v", what, r)
		}
	}()
	calls()
}

// Every makes each call of a root and of another int, be it an item or a root.
func (k Kind) Every(a *arena.Arena, r, x int) {
	k.Min(a, r)
	k.All(a, r)
	k.Fall(a, r, x)
	k.Meld(a, r, x)
	k.Push(a, r, x)
	k.Cut(a, r, x)
	k.Pop(a, r)
	k.Meld(a, x, x)
	k.Drop(a, r)
}

func nilArena(t T, k Kind) {
	ints := append(NoCells(), 0, 1, 2)
	for _, r := range ints {
		for _, x := range ints {
			if s, ok := k.Push(nil, r, x); s != api.None || ok {
				t.Errorf("R1: Push(%d, %d) of a nil arena: %d %t", r, x, s, ok)
			}
			if s := k.Fall(nil, r, x); s != api.None {
				t.Errorf("R1: Fall(%d, %d) of a nil arena: %d", r, x, s)
			}
			if s := k.Cut(nil, r, x); s != api.None {
				t.Errorf("R1: Cut(%d, %d) of a nil arena: %d", r, x, s)
			}
			if s := k.Meld(nil, r, x); s != api.None {
				t.Errorf("R1: Meld(%d, %d) of a nil arena: %d", r, x, s)
			}
		}
		if s, i := k.Pop(nil, r); s != api.None || i != api.None {
			t.Errorf("R1: Pop(%d) of a nil arena: %d %d", r, s, i)
		}
		if i := k.Min(nil, r); i != api.None {
			t.Errorf("R1: Min(%d) of a nil arena: %d", r, i)
		}
		if l := append(k.All(nil, r), k.Drop(nil, r)...); len(l) > 0 {
			t.Errorf("R1: All or Drop(%d) of a nil arena: %v", r, l)
		}
	}
}

func noCells(t T, k Kind) {
	ints := append(NoCells(), 0, 1)
	for _, r := range ints {
		for _, x := range ints {
			a := arena.New(0)
			Ends(t, "an arena of no cells", func() { k.Every(a, r, x) })
			if a.Len() != 0 {
				t.Fatalf("R1: %d cells of an arena of none are taken", a.Len())
			}
		}
	}
}

// Any int as a root or an item, beside a heap: what is not taken leaves it as it is.
func anyInt(t T, k Kind) {
	w := Plant(t, k, 40, 2)
	w.Add(0, 5, 3, 8, 1, 9, 2, 7)
	w.Add(1, 4, 6)
	w.Drain(1)
	for _, i := range w.Out {
		w.A.Give(i)
	}
	w.Out = nil
	free := NoCells()
	for c := range 42 {
		if !w.A.Live(c) {
			free = append(free, c)
		}
	}
	for _, c := range free {
		w.Stay("R1: calls of no cell", func() {
			for _, d := range free {
				Ends(t, "calls of no cell", func() { k.Every(w.A, c, d) })
			}
			Ends(t, "calls of no item", func() {
				k.Fall(w.A, w.Root[0], c)
				k.Cut(w.A, w.Root[0], c)
				k.Push(w.A, w.Root[0], c)
			})
		})
	}
	w.Right("calls of no cell")
}

// Each cell of a heap as a root or an item: roots, other nodes, items that are in it or not.
func anyCell(t T, k Kind) {
	for r := -1; r < 24; r++ {
		for x := -1; x < 24; x++ {
			w := Plant(t, k, 24, 2)
			w.Add(0, 5, 3, 8, 1, 9)
			w.Add(1, 4, 6, 2)
			w.Fresh(1, 1)
			Ends(t, "calls of any cell", func() {
				for range 3 {
					k.Every(w.A, r, x)
					k.Every(w.A, x, w.Root[0])
					k.Every(w.A, w.Root[1], x)
				}
			})
		}
	}
}

// A root that was told ahead of a later call, and an item that has left.
func rootsThatAreOver(t T, k Kind) {
	w := Grown(t, k, Drawn(30)...)
	var roots []int
	for range 25 {
		roots = append(roots, w.Root[0])
		w.Pop(0)
	}
	for _, i := range w.Out {
		for _, r := range roots {
			Ends(t, "roots that are over", func() { k.Every(w.A, r, i) })
		}
	}
}

// A cell that is no root is taken as no items: nothing is promised of it, but heaps that are there stay as they are. (Nodes with nothing above may be roots.)
func cellsThatAreNoRoot(t T, k Kind) {
	w := Plant(t, k, 60, 2)
	w.Add(0, Drawn(13)...)
	w.Add(1, Drawn(7)...)
	w.Fresh(0, 0)
	w.Pop(0) // pushes alone may leave all nodes with nothing above
	w.Pop(1)
	var no []int
	for c := range w.A.Cells() {
		if w.A.Cell(c, api.Up) != api.None || w.A.Cell(c, api.Item) == api.None {
			no = append(no, c)
		}
	}
	w.Stay("calls of no root", func() {
		for _, c := range no {
			w.noRoot(c)
		}
	})
	w.Right("calls of no root")
	i := w.Fresh(Lowest, 0)
	for _, c := range no {
		w.pushToNoRoot(c, i)
	}
}

// pushToNoRoot pushes an item to a cell that is no root: it is a heap by itself then.
func (w *Wood) pushToNoRoot(c, i int) {
	w.Helper()
	r, ok := w.Kind.Push(w.A, c, i)
	if l := w.Kind.Drop(w.A, r); !ok || !slices.Equal(l, []int{i}) {
		w.Errorf("Push to cell %d, no root: %v %t, must be %d alone", c, l, ok, i)
	}
	w.Right("Push to no root")
}

func (w *Wood) noRoot(c int) {
	w.Helper()
	k, root := w.Kind, w.Root[0]
	r, i := k.Pop(w.A, c)
	if r != api.None || i != api.None || k.Min(w.A, c) != api.None || len(k.All(w.A, c))+len(k.Drop(w.A, c)) > 0 {
		w.Errorf("cell %d, no root, is taken as a heap", c)
	}
	if k.Meld(w.A, root, c) != root || k.Meld(w.A, c, root) != root {
		w.Errorf("Meld with cell %d, no root, tells another root", c)
	}
	for x := range w.A.Cells() {
		if k.Fall(w.A, c, x) != c || k.Cut(w.A, c, x) != c {
			w.Errorf("Fall or Cut of cell %d, no root, tells another one", c)
		}
	}
}

// An item that is in a heap already, and a heap with itself: these can be told, so heaps stay as they are.
func oneTwice(t T, k Kind) {
	for n := range 20 {
		w := Plant(t, k, 100, 2)
		w.Add(0, Drawn(n)...)
		w.Add(1, Lowest, 6, 7)
		w.Stay("a heap or an item twice", func() {
			r := w.Root[0]
			if s := k.Meld(w.A, r, r); s != r {
				t.Errorf("Meld of a heap with itself: %d, must be %d", s, r)
			}
			for _, l := range w.Has {
				for _, i := range l {
					if s, ok := k.Push(w.A, r, i); s != r || ok {
						t.Errorf("Push of an item that is in a heap: %d %t", s, ok)
					}
				}
			}
		})
		w.Right("a heap or an item twice")
	}
}

// A root that is over may be the cell that a Push takes: it must not be taken as a heap's then.
func pushToTheCellThatIsTaken(t T, k Kind) {
	for n := range 20 {
		w := Grown(t, k, Drawn(n)...)
		w.Drop(0)
		i := w.Fresh(3, 3)
		next, _ := w.A.Take()
		w.A.Give(next)
		r, ok := k.Push(w.A, next, i)
		if l := k.All(w.A, r); !ok || !slices.Equal(l, []int{i}) {
			t.Errorf("Push to %d, which is not taken: %v %t, must be %d alone", next, l, ok, i)
		}
		w.Root[0], w.Has[0], w.Out = r, []int{i}, without(w.Out, i)
		w.Right("Push to a cell that is not taken")
	}
}

// Nodes are n cells, 0 to n - 1, that are items, and n more, each the node of one of them.
func Nodes(n int) *arena.Arena {
	a := arena.New(3 * n)
	for c := range n {
		item.New(a, int64(c), int64(c))
	}
	for c := range n {
		node, _ := a.Take()
		item.Put(a, node, c)
	}
	return a
}

// Turned are Nodes of which links were set, one behind the other: cell, field, what it has there.
func Turned(n int, links ...[3]int) *arena.Arena {
	a := Nodes(n)
	for _, l := range links {
		a.Set(l[0], l[1], int64(l[2]))
	}
	return a
}

// LinksOfNoHeap runs calls of n nodes whose links and Ranks are as no heap has them: they must end, and All tells no item twice.
func LinksOfNoHeap(t T, k Kind, n int, what string, links ...[3]int) {
	t.Helper()
	for r := range 2 * n {
		if l := k.All(Turned(n, links...), r); len(slices.Compact(slices.Clone(l))) != len(l) {
			t.Errorf("%s: All of %d tells an item twice: %v", what, r, l)
		}
		for x := range 2 * n {
			Ends(t, what, func() {
				a := Turned(n, links...)
				item.Lower(a, x, Lowest)
				k.Fall(a, r, x)
				k.Every(a, r, x)
				a = Turned(n, links...)
				s := k.Meld(a, r, x)
				s, _ = k.Pop(a, s)
				k.Every(a, s, x)
			})
		}
	}
}

// Links that lead round, with links back or without, and with a way in or without: no heap has them, but calls must end.
func linksThatLeadRound(t T, k Kind) {
	const n = 5
	for link := api.Up; link <= api.Right; link++ {
		for back := api.Up - 1; back <= api.Right; back++ {
			for r := -1; r < 2*n; r++ {
				for first := range n {
					a := round(n, link, back, first)
					Ends(t, "links that lead round", func() {
						for x := -1; x < 2*n; x++ {
							k.Every(a, r, x)
						}
					})
				}
			}
		}
	}
}

// round are nodes, each linked to the next one and the last to the first of a ring.
func round(n, link, back, first int) *arena.Arena {
	a := Nodes(n)
	for c := range n {
		next := n + c + 1
		if c == n-1 {
			next = n + first
		}
		a.Set(n+c, link, int64(next))
		a.Set(next, back, int64(n+c))
		a.Set(n+c, api.Rank, int64(first*(n-c)))
	}
	return a
}

// some is a number that may be a cell, and now and then any number.
func (m *Mixed) some(cells int) int64 {
	if m.Below(12) == 0 {
		return int64(m.Next())
	}
	return int64(m.Below(cells+2) - 1)
}

// anyCalls makes some calls, of roots that were told or not.
func (k Kind) anyCalls(a *arena.Arena, m *Mixed, r int) {
	for range 12 {
		x := int(m.some(a.Cells()))
		switch m.Below(9) {
		case 0, 1:
			r, _ = k.Push(a, r, x)
		case 2:
			r, _ = k.Pop(a, r)
		case 3:
			r = k.Fall(a, r, x)
		case 4:
			r = k.Cut(a, r, x)
		case 5:
			r = k.Meld(a, r, x)
		case 6:
			r = int(m.some(a.Cells()))
		case 7:
			k.All(a, r)
			k.Min(a, r)
		default:
			k.Every(a, r, x)
		}
	}
}

// Heaps of which a few fields were turned.
func brokenHeaps(t T, k Kind) {
	m := Mix(11)
	for run := range 2000 {
		w := Plant(t, k, 80, 2)
		w.Add(0, Drawn(1+m.Below(16))...)
		w.Add(1, Drawn(1+m.Below(16))...)
		for range 1 + m.Below(6) {
			c := item.Node(w.A, m.One(w.Has[m.Below(2)]))
			w.A.Set(c, m.Below(api.Fields), m.some(w.A.Len()))
		}
		Ends(t, "broken heaps, run "+strconv.Itoa(run), func() {
			k.anyCalls(w.A, m, m.One(w.Root))
			k.anyCalls(w.A, m, m.One(w.Root))
		})
	}
}

// Cells that have anything at all.
func cellsOfAnything(t T, k Kind) {
	m := Mix(12)
	for run := range 3000 {
		cells := 1 + m.Below(14)
		a := Nodes(cells)
		for range m.Below(40 * cells) {
			a.Set(m.Below(3*cells), m.Below(api.Fields), m.some(3*cells))
		}
		for range m.Below(cells) {
			a.Give(m.Below(2 * cells))
		}
		Ends(t, "cells of anything, run "+strconv.Itoa(run), func() { k.anyCalls(a, m, int(m.some(3*cells))) })
	}
}
