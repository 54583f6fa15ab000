// Package node: what heaps of every kind do with their nodes. A node is a cell that has an item, and the item's Node is that cell.
package node

import (
	"slices"

	"thicket/api"
	"thicket/arena"
	"thicket/item"
)

// New takes a node for an item. What is no item, or is in a heap already, gets none, as if there were no cell: a second node of one item could not be told from its first.
func New(a *arena.Arena, i int) (int, bool) {
	if a == nil || !a.Live(i) || item.Node(a, i) != api.None {
		return api.None, false
	}
	n, ok := a.Take()
	if ok {
		item.Put(a, n, i)
	}
	return n, ok
}

// Root is r, if a heap may begin there, else None: a cell that is no root is taken as no items.
func Root(a *arena.Arena, r int) int {
	if a == nil || a.Cell(r, api.Up) != api.None || item.Node(a, a.Cell(r, api.Item)) != r {
		return api.None
	}
	return r
}

// Before tells whether n's item is before m's.
func Before(a *arena.Arena, n, m int) bool {
	return a != nil && item.Before(a, a.Cell(n, api.Item), a.Cell(m, api.Item))
}

// Give gives a node back: its item is in none any more.
func Give(a *arena.Arena, n int) {
	if a == nil {
		return
	}
	a.Set(a.Cell(n, api.Item), api.Node, api.None)
	a.Give(n)
}

// Items are what nodes have, by rising cell.
func Items(a *arena.Arena, l []int) []int {
	if a == nil {
		return nil
	}
	var told []int
	for _, n := range l {
		told = append(told, a.Cell(n, api.Item))
	}
	slices.Sort(told)
	return told
}

// Drop gives nodes back, and tells what they had, by rising cell.
func Drop(a *arena.Arena, l []int) []int {
	told := Items(a, l)
	for _, n := range l {
		Give(a, n)
	}
	return told
}
