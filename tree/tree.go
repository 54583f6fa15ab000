// Package tree: what heaps do whose trees have Ranks. A tree is its top node, which has no Up; a node's children hang from its Down, each one's Right the next.
package tree

import (
	"slices"

	"thicket/api"
	"thicket/arena"
	"thicket/item"
	"thicket/node"
)

// Ranks is how many Ranks there are, 0 to 15: a tree of Rank k has 2^k nodes at least, and of the 2^16 cells that an arena may have, nodes are at most half, for the items are cells too.
const Ranks = 16

// Least is the one of some nodes whose item is before the others', None of none.
func Least(a *arena.Arena, l []int) int {
	if a == nil {
		return api.None
	}
	least := api.None
	for _, n := range l {
		if least == api.None || node.Before(a, n, least) {
			least = n
		}
	}
	return least
}

// Rise brings an item up to where what is above it is before it. Items change their nodes, so trees stay what they are.
func Rise(a *arena.Arena, i int) {
	up := way(a, item.Node(a, i))
	for at := 1; at < len(up) && node.Before(a, up[at-1], up[at]); at++ {
		item.Swap(a, up[at-1], up[at])
	}
}

// Lift brings an item up to the top node of its tree, whatever is above it, and tells that node: None, and nothing, unless it is one of the trees l.
func Lift(a *arena.Arena, l []int, i int) int {
	up := way(a, item.Node(a, i))
	if len(up) == 0 || !slices.Contains(l, up[len(up)-1]) {
		return api.None
	}
	for at := 1; at < len(up); at++ {
		item.Swap(a, up[at-1], up[at])
	}
	return up[len(up)-1]
}

// way is a node and what is above it, the top last. No tree is deeper than there are Ranks, but Ups that lead round, as those of no heap do, have no end.
func way(a *arena.Arena, n int) []int {
	var l []int
	for ; n != api.None && len(l) < Ranks; n = a.Cell(n, api.Up) {
		l = append(l, n)
	}
	return l
}

// Hang makes c the first child of n, whose Rank stays.
func Hang(a *arena.Arena, n, c int) {
	if a == nil {
		return
	}
	a.Set(c, api.Up, int64(n))
	a.Set(c, api.Right, a.Get(n, api.Down))
	a.Set(n, api.Down, int64(c))
}

// Link makes one tree of two of one Rank, and tells its top node.
func Link(a *arena.Arena, n, m int) int {
	if a == nil {
		return api.None
	}
	if node.Before(a, m, n) {
		n, m = m, n
	}
	Hang(a, n, m)
	a.Set(n, api.Rank, a.Get(n, api.Rank)+1)
	return n
}

// Sum makes one heap of trees, as binary numbers are added: trees of unlike Ranks, rising, each one's Right the next. It tells the first one, the root.
func Sum(a *arena.Arena, l []int) int {
	if a == nil {
		return api.None
	}
	digits := slices.Repeat([]int{api.None}, Ranks)
	for _, t := range l {
		carry(a, digits, t)
	}
	return row(a, digits)
}

// carry adds a tree to the digits: two of one Rank make one of the next. Trees of no Rank that there is, as no heap has them, are let go.
func carry(a *arena.Arena, digits []int, t int) {
	for k := a.Get(t, api.Rank); k >= 0 && k < Ranks; k++ {
		if digits[k] == api.None {
			digits[k] = t
			return
		}
		t, digits[k] = Link(a, digits[k], t), api.None
	}
}

// row makes the digits a heap's trees, from the greatest Rank down, and tells the lowest, its root.
func row(a *arena.Arena, digits []int) int {
	next := api.None
	for _, t := range slices.Backward(digits) {
		if t != api.None {
			a.Set(t, api.Right, int64(next))
			next = t
		}
	}
	return next
}
