package heaptest

import (
	"math"
	"slices"

	"thicket/api"
)

// The ends of keys.
const (
	Lowest  = math.MinInt64
	Highest = math.MaxInt64
)

// Edges are keys next to where numbers end or change their sign.
func Edges() []int64 {
	return []int64{0, Highest, Lowest, -1, 1, Lowest + 1, Highest - 1, 1 << 32, -1 << 32, Lowest, Highest, 0}
}

// NoCells are ints that are no cell of a small arena.
func NoCells() []int {
	return []int{math.MinInt, math.MinInt + 1, -1 << 32, -api.MaxCells, -2, -1, 999, api.MaxCells - 1, api.MaxCells, 1 << 32, math.MaxInt - 1, math.MaxInt}
}

// Mixed is a row of numbers that shows no pattern, the same at each run.
type Mixed struct {
	now uint64
}

// Mix begins a row; another number begins another one.
func Mix(first uint64) *Mixed { return &Mixed{now: 2*first + 1} }

// Next is any number.
func (m *Mixed) Next() uint64 {
	m.now ^= m.now >> 12
	m.now ^= m.now << 25
	m.now ^= m.now >> 27
	return m.now * 2685821657736338717
}

// Below is one of 0 to n - 1.
func (m *Mixed) Below(n int) int { return int(m.Next() >> 33 % uint64(n)) }

// One is one of a list.
func (m *Mixed) One(l []int) int { return l[m.Below(len(l))] }

// Shuffle is a list in another order.
func (m *Mixed) Shuffle(l []int) []int {
	l = slices.Clone(l)
	for at := range l {
		with := at + m.Below(len(l)-at)
		l[at], l[with] = l[with], l[at]
	}
	return l
}

// Keys are keys, and how they come.
type Keys struct {
	How  string
	Keys []int64
}

// Orders are ways for n keys to come.
func Orders(n int) []Keys {
	m := Mix(3)
	return []Keys{
		{"rising", Each(n, func(at int) int64 { return int64(at) })},
		{"falling", Each(n, func(at int) int64 { return int64(-at) })},
		{"like", Each(n, func(int) int64 { return 7 })},
		{"mixed", Drawn(n)},
		{"few", Each(n, func(int) int64 { return int64(m.Below(5)) })},
		{"edges", Each(n, func(at int) int64 { return Edges()[at%len(Edges())] })},
	}
}

// Each is a list of n keys.
func Each(n int, key func(at int) int64) []int64 {
	var l []int64
	for at := range n {
		l = append(l, key(at))
	}
	return l
}

// Drawn is a list of n keys of any size.
func Drawn(n int) []int64 {
	m := Mix(5)
	return Each(n, func(int) int64 { return int64(m.Next()) })
}

// permutations are all orders of the numbers 0 to n - 1, ten times each.
func permutations(n int) [][]int64 {
	if n == 0 {
		return [][]int64{nil}
	}
	var all [][]int64
	for _, l := range permutations(n - 1) {
		for at := range n {
			all = append(all, slices.Insert(slices.Clone(l), at, int64(10*(n-1))))
		}
	}
	return all
}
