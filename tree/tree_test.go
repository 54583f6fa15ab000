package tree_test

import (
	"slices"
	"testing"

	"thicket/api"
	"thicket/arena"
	"thicket/heaptest"
	"thicket/item"
	"thicket/tree"
)

// Of heaptest.Nodes(n), node n + c has item c, and items are in the order of their cells.
const n = 8

func mustGet(t *testing.T, a *arena.Arena, what string, c, field, want int) {
	t.Helper()
	if got := a.Get(c, field); got != int64(want) {
		t.Errorf("%s: field %d of cell %d: %d, must be %d", what, field, c, got, want)
	}
}

// mustChildren sees that a node has these children.
func mustChildren(t *testing.T, a *arena.Arena, what string, up int, want ...int) {
	t.Helper()
	field, last := api.Down, up
	for _, c := range want {
		mustGet(t, a, what, last, field, c)
		mustGet(t, a, what, c, api.Up, up)
		field, last = api.Right, c
	}
	mustGet(t, a, what, last, field, api.None)
}

// mustItems sees that nodes have these items.
func mustItems(t *testing.T, a *arena.Arena, what string, nodes []int, want ...int) {
	t.Helper()
	for at, c := range nodes {
		if got := a.Cell(c, api.Item); got != want[at] || item.Node(a, got) != c {
			t.Errorf("%s: node %d has item %d, must be %d", what, c, got, want[at])
		}
	}
}

// row are n nodes, each above the next one, and the item of the first one behind all others.
func row() (*arena.Arena, []int) {
	a := heaptest.Nodes(n)
	var l []int
	for c := n; c < 2*n; c++ {
		l = append(l, c)
		if c+1 < 2*n {
			tree.Hang(a, c, c+1)
		}
	}
	a.Set(0, api.Key, 99)
	return a, l
}

func TestLeast(t *testing.T) {
	a := heaptest.Nodes(n)
	for _, c := range []struct {
		l    []int
		want int
	}{{nil, api.None}, {[]int{}, api.None}, {[]int{9}, 9}, {[]int{9, 11}, 9}, {[]int{11, 9}, 9}, {[]int{12, 10, 15, 11}, 10}} {
		was := slices.Clone(c.l)
		if got := tree.Least(a, c.l); got != c.want || !slices.Equal(c.l, was) {
			t.Errorf("Least of %v: %d, must be %d", was, got, c.want)
		}
	}
}

func TestHang(t *testing.T) {
	a := heaptest.Nodes(n)
	for _, c := range []int{11, 9, 15} {
		tree.Hang(a, 10, c)
	}
	mustChildren(t, a, "Hang", 10, 15, 9, 11)
	mustGet(t, a, "Hang", 10, api.Rank, 0)
	mustGet(t, a, "Hang", 10, api.Up, api.None)
}

func TestLink(t *testing.T) {
	for _, l := range [][2]int{{9, 10}, {10, 9}} {
		a := heaptest.Nodes(n)
		a.Set(9, api.Rank, 1)
		a.Set(10, api.Rank, 1)
		tree.Hang(a, 9, 11)
		tree.Hang(a, 10, 12)
		if got := tree.Link(a, l[0], l[1]); got != 9 {
			t.Errorf("Link of %v: %d, must be 9", l, got)
		}
		mustChildren(t, a, "Link", 9, 10, 11)
		mustChildren(t, a, "Link", 10, 12)
		mustGet(t, a, "Link", 9, api.Rank, 2)
		mustGet(t, a, "Link", 10, api.Rank, 1)
		mustGet(t, a, "Link", 9, api.Up, api.None)
		mustGet(t, a, "Link", 9, api.Right, api.None)
	}
}

// An item rises past those that it is before, no further.
func TestRise(t *testing.T) {
	a, l := row()
	tree.Rise(a, 0)
	mustItems(t, a, "Rise of the top", l, 0, 1, 2, 3, 4, 5, 6, 7)
	tree.Rise(a, 5)
	mustItems(t, a, "Rise of what is before the top alone", l, 0, 1, 2, 3, 4, 5, 6, 7)
	item.Lower(a, 5, 3)
	tree.Rise(a, 5)
	mustItems(t, a, "Rise to a like key", l, 0, 1, 2, 3, 5, 4, 6, 7)
	item.Lower(a, 7, -1)
	tree.Rise(a, 7)
	mustItems(t, a, "Rise to the top", l, 7, 0, 1, 2, 3, 5, 4, 6)
}

func TestLift(t *testing.T) {
	a, l := row()
	for _, tops := range [][]int{nil, {9}, {15, 9, 14}} {
		if got := tree.Lift(a, tops, 5); got != api.None {
			t.Errorf("Lift of what is below none of %v: %d", tops, got)
		}
	}
	mustItems(t, a, "Lift in vain", l, 0, 1, 2, 3, 4, 5, 6, 7)
	if got := tree.Lift(a, []int{9, 8}, 5); got != 8 {
		t.Errorf("Lift: %d, must be 8", got)
	}
	mustItems(t, a, "Lift", l, 5, 0, 1, 2, 3, 4, 6, 7)
	if got := tree.Lift(a, []int{8}, 5); got != 8 {
		t.Errorf("Lift of the top: %d, must be 8", got)
	}
	mustItems(t, a, "Lift of the top", l, 5, 0, 1, 2, 3, 4, 6, 7)
}

// The deepest tree has as many nodes one above the other as there are Ranks.
func TestRiseAndLiftOfTheDeepest(t *testing.T) {
	for _, call := range []func(a *arena.Arena, top, i int){
		func(a *arena.Arena, top, i int) { tree.Rise(a, i) },
		func(a *arena.Arena, top, i int) {
			if got := tree.Lift(a, []int{top}, i); got != top {
				t.Errorf("Lift of the deepest: %d, must be %d", got, top)
			}
		},
	} {
		a := heaptest.Nodes(tree.Ranks)
		for c := tree.Ranks; c+1 < 2*tree.Ranks; c++ {
			tree.Hang(a, c, c+1)
		}
		const i = tree.Ranks - 1
		item.Lower(a, i, -1)
		call(a, tree.Ranks, i)
		if got := item.Node(a, i); got != tree.Ranks {
			t.Errorf("the deepest is in node %d, must be %d", got, tree.Ranks)
		}
	}
}

func TestUpsThatLeadRound(t *testing.T) {
	for _, l := range [][][3]int{{{8, api.Up, 8}}, {{8, api.Up, 9}, {9, api.Up, 8}}, {{8, api.Up, 9}, {9, api.Up, 10}, {10, api.Up, 9}}} {
		a := heaptest.Turned(n, l...)
		item.Lower(a, 0, -1)
		heaptest.Ends(t, "Ups that lead round", func() {
			tree.Rise(a, 0)
			if got := tree.Lift(a, []int{15}, 0); got != api.None {
				t.Errorf("Lift where Ups lead round: %d", got)
			}
		})
	}
}

// mustSum sums trees of one node each, or of these Ranks, and sees which Ranks come of it.
func mustSum(t *testing.T, ranks []int, want ...int) {
	t.Helper()
	a := heaptest.Nodes(n)
	var l, got []int
	for at, k := range ranks {
		l = append(l, n+at)
		a.Set(n+at, api.Rank, int64(k))
		a.Set(n+at, api.Right, n)
	}
	was := slices.Clone(l)
	for c := tree.Sum(a, l); c != api.None; c = a.Cell(c, api.Right) {
		got = append(got, int(a.Get(c, api.Rank)))
		mustGet(t, a, "Sum", c, api.Up, api.None)
	}
	if !slices.Equal(got, want) || !slices.Equal(l, was) {
		t.Errorf("Sum of Ranks %v: %v, must be %v", ranks, got, want)
	}
}

func TestSum(t *testing.T) {
	mustSum(t, nil)
	mustSum(t, []int{3}, 3)
	mustSum(t, []int{3, 0, 7}, 0, 3, 7)
	mustSum(t, []int{0, 0}, 1)
	mustSum(t, []int{0, 0, 0}, 0, 1)
	mustSum(t, []int{2, 2, 2, 2}, 4)
	mustSum(t, []int{0, 1, 2, 3, 0}, 4)
	mustSum(t, []int{15, 14}, 14, 15)
	mustSum(t, []int{14, 14}, 15)
	mustSum(t, []int{15, 15, 1}, 1) // no heap has so many
	mustSum(t, []int{16, 1 << 40, -1, heaptest.Lowest, heaptest.Highest, 1}, 1)
}

// All orders of four trees that are the same: what comes of them is one tree, each item below one that is before it.
func TestSumLinks(t *testing.T) {
	for _, l := range [][]int{{8, 9, 10, 11}, {11, 10, 9, 8}, {10, 8, 11, 9}, {9, 11, 8, 10}} {
		a := heaptest.Nodes(n)
		if got := tree.Sum(a, l); got != 8 {
			t.Errorf("Sum of %v: %d, must be 8", l, got)
		}
		for _, c := range l {
			if up := a.Cell(c, api.Up); up == api.None != (c == 8) || up > c {
				t.Errorf("Sum of %v: node %d is below %d", l, c, up)
			}
		}
		mustGet(t, a, "Sum", 8, api.Rank, 2)
	}
}

func TestNoCells(t *testing.T) {
	for _, a := range []*arena.Arena{nil, arena.New(0), arena.New(3)} {
		for _, c := range append(heaptest.NoCells(), 0, 1) {
			heaptest.Ends(t, "no cells", func() {
				tree.Least(a, []int{c, 0})
				tree.Rise(a, c)
				tree.Hang(a, c, 0)
				tree.Hang(a, 0, c)
				tree.Link(a, c, 0)
				tree.Link(a, 0, c)
				if got := tree.Lift(a, []int{c, 0, 1}, c); got != api.None {
					t.Errorf("Lift of %d, which is no item: %d", c, got)
				}
				if got := tree.Sum(a, []int{c, 0, 1}); got != api.None {
					t.Errorf("Sum of %d, which is no tree: %d", c, got)
				}
			})
		}
	}
}

func TestNilArena(t *testing.T) {
	if got := tree.Least(nil, []int{3, 4}); got != api.None {
		t.Errorf("R1: Least of a nil arena: %d", got)
	}
	if got := tree.Link(nil, 3, 4); got != api.None {
		t.Errorf("R1: Link of a nil arena: %d", got)
	}
	if got := tree.Sum(nil, []int{3, 4}); got != api.None {
		t.Errorf("R1: Sum of a nil arena: %d", got)
	}
	if got := tree.Lift(nil, []int{3, 4}, 3); got != api.None {
		t.Errorf("R1: Lift of a nil arena: %d", got)
	}
}
