// Package order has numbers that stay within their bounds, and the order of entries: see doc/01-order.md.
package order

import (
	"math"
	"math/bits"
	"slices"

	"thicket/api"
)

// Bits tells how many binary digits n has; a number below 1 has none, so that a bound on nothing is its fixed part alone.
func Bits(n int) int {
	if n < 1 {
		return 0
	}
	return bits.Len(uint(n))
}

// Add tells the sum, held at the greatest or the least int64: a time or a count that came round would pass for a small one.
func Add(a, b int64) int64 {
	if b > 0 && a > math.MaxInt64-b {
		return math.MaxInt64
	}
	if b < 0 && a < math.MinInt64-b {
		return math.MinInt64
	}
	return a + b
}

// Before tells whether a goes ahead of b: of equal keys, the one that came first.
func Before(a, b api.Entry) bool {
	if a.Key != b.Key {
		return a.Key < b.Key
	}
	return a.Serial < b.Serial
}

// Compare stands on Before alone, so that the two cannot disagree.
func Compare(a, b api.Entry) int {
	if Before(a, b) {
		return -1
	}
	if Before(b, a) {
		return 1
	}
	return 0
}

// Least tells where the first one stands that none is before; false of none.
func Least(l ...api.Entry) (int, bool) {
	if len(l) == 0 {
		return 0, false
	}
	at := 0
	for i, e := range l {
		if Before(e, l[at]) {
			at = i
		}
	}
	return at, true
}

// Sorted tells whether none is before the one ahead of it; neighbours are enough, since Before is transitive.
func Sorted(l ...api.Entry) bool {
	for i := 1; i < len(l); i++ {
		if Before(l[i], l[i-1]) {
			return false
		}
	}
	return true
}

// Sort works on a copy, because l may be the caller's own list; its sort is stable, so that ties stay in their order.
func Sort(l ...api.Entry) []api.Entry {
	sorted := make([]api.Entry, len(l))
	copy(sorted, l)
	slices.SortStableFunc(sorted, Compare)
	return sorted
}

// Limit adds b to a once for each digit of n: a product could overflow where the sum that starts at a does not.
func Limit(a, b int64, n int) int64 {
	sum := a
	for range Bits(n) {
		sum = Add(sum, b)
	}
	return sum
}
