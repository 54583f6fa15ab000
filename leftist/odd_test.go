package leftist_test

import (
	"fmt"
	"math"
	"math/rand"
	"testing"
	"time"

	"thicket/api"
	"thicket/arena"
	"thicket/item"
	"thicket/leftist"
)

// odd are ints that are no cell of a small arena.
func odd() []int {
	return []int{math.MinInt, math.MinInt + 1, -1 << 32, -api.MaxCells, -2, -1, 999, api.MaxCells - 1, api.MaxCells, 1 << 32, math.MaxInt - 1, math.MaxInt}
}

// mustEnd runs calls of which nothing is promised but that they end and do not panic.
func mustEnd(t *testing.T, what string, calls func()) {
	t.Helper()
	end := make(chan string)
	go func() {
		said := ""
		defer func() {
			if r := recover(); r != nil {
				said = fmt.Sprint("a panic: ", r)
			}
			end <- said
		}()
		calls()
	}()
	select {
	case said := <-end:
		if said != "" {
			t.Fatalf("R1: %s: %s", what, said)
		}
	case <-time.After(time.Minute):
		t.Fatalf("R1: %s: does not end", what)
	}
}

// everyCall makes each call of a root and of another int, be it an item or a root.
func everyCall(a *arena.Arena, r, x int) {
	leftist.Min(a, r)
	leftist.All(a, r)
	leftist.Fall(a, r, x)
	leftist.Meld(a, r, x)
	leftist.Push(a, r, x)
	leftist.Cut(a, r, x)
	leftist.Pop(a, r)
	leftist.Meld(a, x, x)
	leftist.Drop(a, r)
}

func TestNilArena(t *testing.T) {
	for _, r := range append(odd(), 0, 1, 2) {
		if s, ok := leftist.Push(nil, r, 0); s != api.None || ok {
			t.Errorf("R1: Push(%d) of a nil arena: %d %t", r, s, ok)
		}
		if s, i := leftist.Pop(nil, r); s != api.None || i != api.None {
			t.Errorf("R1: Pop(%d) of a nil arena: %d %d", r, s, i)
		}
		if i := leftist.Min(nil, r); i != api.None {
			t.Errorf("R1: Min(%d) of a nil arena: %d", r, i)
		}
		for _, x := range append(odd(), 0, 1) {
			if s := leftist.Fall(nil, r, x); s != api.None {
				t.Errorf("R1: Fall(%d, %d) of a nil arena: %d", r, x, s)
			}
			if s := leftist.Cut(nil, r, x); s != api.None {
				t.Errorf("R1: Cut(%d, %d) of a nil arena: %d", r, x, s)
			}
			if s := leftist.Meld(nil, r, x); s != api.None {
				t.Errorf("R1: Meld(%d, %d) of a nil arena: %d", r, x, s)
			}
		}
		if l := leftist.All(nil, r); len(l) > 0 {
			t.Errorf("R1: All(%d) of a nil arena: %v", r, l)
		}
		if l := leftist.Drop(nil, r); len(l) > 0 {
			t.Errorf("R1: Drop(%d) of a nil arena: %v", r, l)
		}
	}
}

func TestNoCells(t *testing.T) {
	for _, r := range append(odd(), 0, 1) {
		for _, x := range append(odd(), 0, 1) {
			a := arena.New(0)
			mustEnd(t, "an arena of no cells", func() { everyCall(a, r, x) })
			if a.Len() != 0 {
				t.Fatalf("R1: %d cells of an arena of none are taken", a.Len())
			}
		}
	}
}

// Any int as a root or an item, beside a heap: what is not taken leaves it as it is.
func TestAnyInt(t *testing.T) {
	w := plant(t, 40, 2)
	w.add(0, 5, 3, 8, 1, 9, 2, 7)
	w.add(1, 4, 6)
	w.drain(1)
	for _, i := range w.out {
		w.a.Give(i)
	}
	w.out = nil
	free := append(odd(), 16, 17, 20, 39, 40, 41)
	for _, c := range free {
		if w.a.Live(c) {
			t.Fatalf("cell %d is taken", c)
		}
		w.mustStay("R1: calls of no cell", func() {
			for _, d := range free {
				mustEnd(t, "calls of no cell", func() { everyCall(w.a, c, d) })
			}
			mustEnd(t, "calls of no item", func() {
				leftist.Fall(w.a, w.root[0], c)
				leftist.Cut(w.a, w.root[0], c)
				leftist.Push(w.a, w.root[0], c)
			})
		})
	}
	w.right("calls of no cell")
}

// Each cell of a heap as a root or an item: roots, other nodes, items that are in it or not.
func TestAnyCell(t *testing.T) {
	for r := -1; r < 24; r++ {
		for x := -1; x < 24; x++ {
			w := plant(t, 24, 2)
			w.add(0, 5, 3, 8, 1, 9)
			w.add(1, 4, 6, 2)
			w.fresh(1, 1)
			mustEnd(t, "calls of any cell", func() {
				for range 3 {
					everyCall(w.a, r, x)
					everyCall(w.a, x, w.root[0])
					everyCall(w.a, w.root[1], x)
				}
			})
		}
	}
}

// A root that was told ahead of a later call, and an item that has left.
func TestRootsThatAreOver(t *testing.T) {
	w := grown(t, orders(30)["mixed"]...)
	var roots []int
	for range 25 {
		roots = append(roots, w.root[0])
		w.pop(0)
	}
	for _, i := range w.out {
		for _, r := range roots {
			mustEnd(t, "roots that are over", func() { everyCall(w.a, r, i) })
		}
	}
}

// A cell that is no root is taken as no items: nothing is promised of it, but heaps that are there stay as they are.
func TestCellsThatAreNoRoot(t *testing.T) {
	w := plant(t, 40, 2)
	w.add(0, 5, 3, 8, 1, 9, 2)
	w.add(1, 4, 6, 7)
	w.fresh(0, 0)
	w.mustStay("calls of no root", func() {
		for c := range 40 {
			if c == w.root[0] || c == w.root[1] {
				continue
			}
			r, i := leftist.Pop(w.a, c)
			if r != api.None || i != api.None || leftist.Min(w.a, c) != api.None || len(leftist.All(w.a, c))+len(leftist.Drop(w.a, c)) > 0 {
				t.Errorf("cell %d, no root, is taken as a heap", c)
			}
			if leftist.Meld(w.a, w.root[0], c) != w.root[0] || leftist.Meld(w.a, c, w.root[0]) != w.root[0] {
				t.Errorf("Meld with cell %d, no root, tells another root", c)
			}
			for x := range 40 {
				if leftist.Fall(w.a, c, x) != c || leftist.Cut(w.a, c, x) != c {
					t.Errorf("Fall or Cut of cell %d, no root, tells another one", c)
				}
			}
		}
	})
	w.right("calls of no root")
}

// The least item of another heap, and a heap with itself: these can be told, so both heaps stay as they are.
func TestOfAnotherHeap(t *testing.T) {
	for n := range 20 {
		w := plant(t, 100, 2)
		w.add(0, orders(n)["mixed"]...)
		w.add(1, least, 6, 7)
		w.mustStay("calls of what is another heap's", func() {
			r := w.root[0]
			if leftist.Meld(w.a, r, r) != r || leftist.Fall(w.a, r, w.least(1)) != r || leftist.Cut(w.a, r, w.least(1)) != r {
				t.Errorf("another root is told")
			}
			if s, ok := leftist.Push(w.a, r, w.least(1)); s != r || ok {
				t.Errorf("Push of an item that is in a heap: %d %t", s, ok)
			}
		})
		w.right("calls of what is another heap's")
	}
}

// nodesOf are cells, each a node of an item of its own: item c of node c + n.
func nodesOf(n int) *arena.Arena {
	a := arena.New(3 * n)
	for c := range n {
		item.New(a, int64(c), int64(c))
	}
	for c := range n {
		node, _ := a.Take()
		item.Put(a, node, c)
	}
	return a
}

// Links that lead round: no heap has them, but calls must end.
func TestLinksThatLeadRound(t *testing.T) {
	const n = 6
	for bits := range 1 << 5 {
		field := func(bit int) int { return api.Left + bits>>bit&1 } // Left or Right
		rings := map[string]func(a *arena.Arena){
			"to itself": func(a *arena.Arena) {
				for c := n; c < 2*n; c++ {
					a.Set(c, field(0), int64(c))
					a.Set(c, api.Up, int64(c))
				}
			},
			"a ring": func(a *arena.Arena) {
				for c := range n {
					a.Set(n+c, field(c%5), int64(n+(c+1)%n))
					a.Set(n+(c+1)%n, api.Up, int64(n+c))
				}
			},
			"a ring without Ups": func(a *arena.Arena) {
				for c := range n {
					a.Set(n+c, field(c%5), int64(n+(c+1)%n))
				}
			},
			"both children one": func(a *arena.Arena) {
				for c := n; c+1 < 2*n; c++ {
					a.Set(c, api.Left, int64(c+1))
					a.Set(c, api.Right, int64(c+1))
					a.Set(c+1, api.Up, int64(c))
				}
			},
			"a way into a ring": func(a *arena.Arena) {
				for c := n; c+1 < 2*n; c++ {
					a.Set(c, field(c%5), int64(c+1))
					a.Set(c+1, api.Up, int64(c))
				}
				a.Set(2*n-1, field(0), n+2)
				a.Set(2*n-1, field(1), n)
			},
		}
		for what, turn := range rings {
			for r := -1; r < 2*n; r++ {
				a := nodesOf(n)
				turn(a)
				mustEnd(t, what, func() {
					for x := -1; x < 2*n; x++ {
						everyCall(a, r, x)
					}
				})
			}
		}
	}
}

// One cell in both places of each node, from the first to the last: twice as many ways a level, were both gone.
func TestBothChildrenOne(t *testing.T) {
	const n = 80
	a := nodesOf(n)
	for c := n; c+1 < 2*n; c++ {
		a.Set(c, api.Left, int64(c+1))
		a.Set(c, api.Right, int64(c+1))
		a.Set(c+1, api.Up, int64(c))
		a.Set(c, api.Rank, int64(2*n-c))
	}
	mustEnd(t, "both children one", func() {
		leftist.All(a, n)
		leftist.Fall(a, n, n-1)
		leftist.Drop(a, n)
	})
}

// Ups that lead round, past children of great Ranks: Ranks there may rise for as long as they are gone round.
func TestUpsThatLeadRound(t *testing.T) {
	for _, great := range []int64{1 << 40, greatest - 1, greatest, least, -1} {
		for _, call := range []func(a *arena.Arena, r, i int) int{leftist.Fall, leftist.Cut} {
			a := nodesOf(6)
			link := func(n, field, c int) {
				a.Set(n, field, int64(c))
				a.Set(c, api.Up, int64(n))
			}
			link(7, api.Left, 8)
			link(8, api.Left, 7)
			link(7, api.Right, 9)
			link(8, api.Right, 10)
			a.Set(9, api.Rank, great)
			a.Set(10, api.Rank, great)
			a.Set(11, api.Up, 7) // of item 5; 6 is a root
			item.Lower(a, 5, -1)
			mustEnd(t, "Ups that lead round", func() { call(a, 6, 5) })
		}
	}
}

// A root that is in a ring, and an item of another place.
func TestRootInARing(t *testing.T) {
	for _, field := range []int{api.Left, api.Right} {
		a := nodesOf(4)
		for _, l := range [][3]int{{4, field, 5}, {5, field, 4}, {6, api.Left, 7}} {
			a.Set(l[0], l[1], int64(l[2]))
			a.Set(l[2], api.Up, int64(l[0]))
		}
		item.Lower(a, 3, -1)
		mustEnd(t, "a root in a ring", func() {
			leftist.Fall(a, 4, 3)
			everyCall(a, 4, 3)
		})
	}
}

// Cells that have anything at all.
func TestCellsOfAnything(t *testing.T) {
	q := rand.New(rand.NewSource(12))
	number := func(cells int) int64 {
		if q.Intn(12) == 0 {
			return int64(q.Uint64())
		}
		return int64(q.Intn(cells+2) - 1)
	}
	for run := range 3000 {
		cells := 1 + q.Intn(14)
		a := nodesOf(cells)
		for range q.Intn(40 * cells) {
			a.Set(q.Intn(3*cells), q.Intn(api.Fields), number(3*cells))
		}
		for range q.Intn(cells) {
			a.Give(q.Intn(2 * cells))
		}
		mustEnd(t, fmt.Sprint("run ", run), func() {
			r, x := int(number(3*cells)), 0
			for range 12 {
				x = int(number(3 * cells))
				switch q.Intn(8) {
				case 0, 1:
					r, _ = leftist.Push(a, r, x)
				case 2:
					r, _ = leftist.Pop(a, r)
				case 3:
					r = leftist.Fall(a, r, x)
				case 4:
					r = leftist.Cut(a, r, x)
				case 5:
					r = leftist.Meld(a, r, x)
				case 6:
					leftist.All(a, r)
					leftist.Min(a, r)
				default:
					everyCall(a, r, x)
				}
			}
		})
	}
}
