package order_test

import (
	"math"
	"math/big"
	"math/rand"
	"slices"
	"testing"

	"thicket/api"
	"thicket/order"
)

const (
	most  = math.MaxInt64
	least = math.MinInt64
)

func entry(key, serial int64) api.Entry {
	return api.Entry{Key: key, Serial: serial}
}

// edges are the numbers at which a sum or a comparison is likely to go wrong.
func edges() []int64 {
	return []int64{least, least + 1, least / 2, least/2 - 1, -2, -1, 0, 1, 2, most / 2, most/2 + 1, most - 1, most}
}

// edgeEntries are all pairs of a few edges.
func edgeEntries() []api.Entry {
	numbers := []int64{least, -1, 0, 1, most}
	var l []api.Entry
	for _, key := range numbers {
		for _, serial := range numbers {
			l = append(l, entry(key, serial))
		}
	}
	return l
}

// held is a number as an int64, the nearest one where it does not go into it.
func held(n *big.Int) int64 {
	if n.IsInt64() {
		return n.Int64()
	}
	if n.Sign() > 0 {
		return most
	}
	return least
}

// randomEntries are few enough different ones that many Compare as 0.
func randomEntries(q *rand.Rand) []api.Entry {
	var l []api.Entry
	for range q.Intn(40) {
		l = append(l, entry(int64(q.Intn(3)-1), int64(q.Intn(3)-1)))
	}
	return l
}

func TestBits(t *testing.T) {
	for _, c := range []struct{ n, want int }{
		{math.MinInt, 0}, {math.MinInt + 1, 0}, {-8, 0}, {-1, 0}, {0, 0},
		{1, 1}, {2, 2}, {3, 2}, {4, 3}, {7, 3}, {8, 4}, {9, 4}, {math.MaxInt, 63},
	} {
		if got := order.Bits(c.n); got != c.want {
			t.Errorf("P1.1: Bits(%d): %d, must be %d", c.n, got, c.want)
		}
	}
}

func TestBitsAroundPowers(t *testing.T) {
	for k := 1; k < 63; k++ {
		if got := order.Bits(1<<k - 1); got != k {
			t.Errorf("P1.1: Bits(2^%d - 1): %d", k, got)
		}
		if got := order.Bits(1 << k); got != k+1 {
			t.Errorf("P1.1: Bits(2^%d): %d", k, got)
		}
	}
}

func TestAdd(t *testing.T) {
	for _, c := range []struct{ a, b, want int64 }{
		{2, 3, 5}, {-2, 5, 3}, {0, 0, 0},
		{most, 1, most}, {1, most, most}, {most, most, most}, {most - 1, 1, most}, {most - 1, 2, most},
		{least, -1, least}, {-1, least, least}, {least, least, least}, {least + 1, -1, least}, {least + 1, -2, least},
		{most, least, -1}, {least, most, -1}, {least, 0, least}, {0, least, least}, {most, -1, most - 1}, {least, 1, least + 1},
	} {
		if got := order.Add(c.a, c.b); got != c.want {
			t.Errorf("P1.1: Add(%d, %d): %d, must be %d", c.a, c.b, got, c.want)
		}
	}
}

func TestAddHoldsAtTheEnds(t *testing.T) {
	for _, a := range edges() {
		for _, b := range edges() {
			want := held(new(big.Int).Add(big.NewInt(a), big.NewInt(b)))
			if got := order.Add(a, b); got != want {
				t.Errorf("P1.1: Add(%d, %d): %d, must be %d", a, b, got, want)
			}
		}
	}
}

func TestBeforeAndCompare(t *testing.T) {
	for _, c := range []struct {
		a, b api.Entry
		want int
	}{
		{entry(1, 5), entry(2, 0), -1}, {entry(2, 0), entry(1, 5), 1},
		{entry(1, 1), entry(1, 2), -1}, {entry(1, 2), entry(1, 1), 1}, {entry(1, 2), entry(1, 2), 0},
		{entry(0, 0), entry(0, 0), 0},
		{entry(least, 0), entry(most, 0), -1}, {entry(most, 0), entry(least, 0), 1},
		{entry(0, least), entry(0, most), -1}, {entry(0, most), entry(0, least), 1},
		{entry(least, most), entry(most, least), -1},
	} {
		if got := order.Compare(c.a, c.b); got != c.want {
			t.Errorf("P1.1: Compare(%v, %v): %d, must be %d", c.a, c.b, got, c.want)
		}
		if got := order.Before(c.a, c.b); got != (c.want < 0) {
			t.Errorf("P1.1: Before(%v, %v): %t", c.a, c.b, got)
		}
	}
}

func TestOrderIsTotal(t *testing.T) {
	l := edgeEntries() // written down in their order, none twice
	for i, a := range l {
		for j, b := range l {
			want := 0
			if i < j {
				want = -1
			} else if i > j {
				want = 1
			}
			if got := order.Compare(a, b); got != want {
				t.Errorf("P1.1: Compare(%v, %v): %d, must be %d", a, b, got, want)
			}
			if got := order.Before(a, b); got != (i < j) {
				t.Errorf("P1.1: Before(%v, %v): %t", a, b, got)
			}
		}
	}
}

func TestLeast(t *testing.T) {
	for i, c := range []struct {
		l  []api.Entry
		at int
		ok bool
	}{
		{nil, 0, false},
		{[]api.Entry{}, 0, false},
		{make([]api.Entry, 0, 3), 0, false},
		{[]api.Entry{entry(most, most)}, 0, true},
		{[]api.Entry{entry(3, 3), entry(1, 9), entry(1, 9), entry(2, 0)}, 1, true},
		{[]api.Entry{entry(1, 0), entry(1, 0)}, 0, true},
		{[]api.Entry{entry(1, 2), entry(1, 1)}, 1, true},
		{[]api.Entry{entry(2, 0), entry(1, 1), entry(0, 2)}, 2, true},
		{[]api.Entry{entry(most, most), entry(least, most), entry(least, least)}, 2, true},
	} {
		if at, ok := order.Least(c.l...); at != c.at || ok != c.ok {
			t.Errorf("P1.1: Least, case %d: %d, %t", i, at, ok)
		}
	}
	if at, ok := order.Least(); at != 0 || ok {
		t.Errorf("P1.1: Least of none: %d, %t", at, ok)
	}
}

func TestLeastIsTheFirstOfTheLeast(t *testing.T) {
	q := rand.New(rand.NewSource(1))
	for range 500 {
		l := randomEntries(q)
		at, ok := order.Least(l...)
		if ok != (len(l) > 0) {
			t.Fatalf("P1.1: Least of %v: %t", l, ok)
		}
		for i, e := range l {
			if order.Before(e, l[at]) || i < at && !order.Before(l[at], e) {
				t.Fatalf("P1.1: Least of %v: %d, but there is %d", l, at, i)
			}
		}
	}
}

func TestSorted(t *testing.T) {
	for i, c := range []struct {
		l    []api.Entry
		want bool
	}{
		{nil, true},
		{[]api.Entry{}, true},
		{[]api.Entry{entry(1, 1)}, true},
		{[]api.Entry{entry(1, 1), entry(1, 1)}, true},
		{[]api.Entry{entry(1, 1), entry(1, 2), entry(2, 0)}, true},
		{[]api.Entry{entry(1, 2), entry(1, 1)}, false},
		{[]api.Entry{entry(2, 1), entry(1, 2)}, false},
		{[]api.Entry{entry(1, 1), entry(2, 0), entry(2, 0), entry(1, 1)}, false},
		{[]api.Entry{entry(least, most), entry(most, least)}, true},
		{[]api.Entry{entry(most, least), entry(least, most)}, false},
	} {
		if got := order.Sorted(c.l...); got != c.want {
			t.Errorf("P1.1: Sorted, case %d: %t", i, got)
		}
	}
}

func TestSort(t *testing.T) {
	for i, c := range []struct{ l, want []api.Entry }{
		{nil, nil},
		{[]api.Entry{}, nil},
		{[]api.Entry{entry(7, 7)}, []api.Entry{entry(7, 7)}},
		{
			[]api.Entry{entry(2, 1), entry(1, 1), entry(2, 0), entry(1, 1)},
			[]api.Entry{entry(1, 1), entry(1, 1), entry(2, 0), entry(2, 1)},
		},
		{
			[]api.Entry{entry(most, most), entry(0, 0), entry(most, least), entry(least, most), entry(least, least)},
			[]api.Entry{entry(least, least), entry(least, most), entry(0, 0), entry(most, least), entry(most, most)},
		},
	} {
		if got := order.Sort(c.l...); !slices.Equal(got, c.want) {
			t.Errorf("P1.1: Sort, case %d: %v", i, got)
		}
	}
}

// Entries that Compare as 0 are the same number for number: that they are kept in their order shows in no more than how many of each there are.
func TestSortKeepsAll(t *testing.T) {
	q := rand.New(rand.NewSource(2))
	for range 500 {
		l := randomEntries(q)
		s := order.Sort(l...)
		if len(s) != len(l) || !order.Sorted(s...) {
			t.Fatalf("P1.1: Sort of %v: %v", l, s)
		}
		count := map[api.Entry]int{}
		for i := range l {
			count[l[i]]++
			count[s[i]]--
		}
		for e, n := range count {
			if n != 0 {
				t.Fatalf("P1.1: Sort of %v: %v: %v is there %d times too few", l, s, e, n)
			}
		}
	}
}

func TestSortOfMany(t *testing.T) {
	const many = 1 << 17
	l := make([]api.Entry, many)
	for i := range l {
		l[i] = entry(int64((many-i)%1000), int64(many-i))
	}
	if s := order.Sort(l...); len(s) != many || !order.Sorted(s...) {
		t.Errorf("P1.1: Sort of %d entries is not Sorted", many)
	}
}

func TestListsAreNotChanged(t *testing.T) {
	whole := []api.Entry{entry(2, 1), entry(1, 1), entry(2, 0), entry(-9, 0), entry(-8, 0)}
	before := slices.Clone(whole)
	l := whole[:3] // the spare room has entries that would be first
	if at, ok := order.Least(l...); at != 1 || !ok {
		t.Errorf("R5: Least: %d, %t", at, ok)
	}
	if order.Sorted(l...) || !order.Sorted(l[1:]...) {
		t.Errorf("R5: Sorted reads behind the length")
	}
	if got := order.Sort(l...); !slices.Equal(got, []api.Entry{entry(1, 1), entry(2, 0), entry(2, 1)}) {
		t.Errorf("R5: Sort: %v", got)
	}
	if !slices.Equal(whole, before) {
		t.Errorf("R2: the list is %v now", whole)
	}
}

func TestSortAnswersNewMemory(t *testing.T) {
	for _, whole := range [][]api.Entry{
		{entry(5, 5)},
		{entry(1, 0), entry(5, 5)},
		{entry(1, 0), entry(2, 0), entry(5, 5)},
		{entry(2, 0), entry(1, 0), entry(5, 5)},
	} {
		before := slices.Clone(whole)
		l := whole[:len(whole)-1]
		first, second := order.Sort(l...), order.Sort(l...)
		want := slices.Clone(second)
		for i := range first {
			first[i] = entry(99, 99)
		}
		spare := first[len(first):cap(first)]
		for i := range spare {
			spare[i] = entry(99, 99)
		}
		if !slices.Equal(whole, before) {
			t.Errorf("R2: what is written into the answer is seen in the list: %v", whole)
		}
		if !slices.Equal(second, want) || !slices.Equal(order.Sort(l...), want) {
			t.Errorf("R2: what is written into one answer is seen in another: %v", second)
		}
	}
}

func TestLimit(t *testing.T) {
	for _, c := range []struct {
		a, b int64
		n    int
		want int64
	}{
		{500, 400, 0, 500}, {500, 400, 1, 900}, {500, 400, 7, 1700}, {500, 400, 8, 2100},
		{7, 9, -5, 7}, {7, most, math.MinInt, 7}, {5, 0, 99, 5}, {5, -2, 3, 1},
		{most - 5, 3, 2, most}, {most - 6, 3, 2, most}, {most - 7, 3, 2, most - 1},
		{least + 5, -3, 3, least}, {least + 7, -3, 3, least + 1},
		{0, most, math.MaxInt, most}, {0, least, math.MaxInt, least},
		{least, most, 1, -1}, {least, most, 3, most - 1}, {least, most, 4, most}, {most, least, 4, least},
	} {
		if got := order.Limit(c.a, c.b, c.n); got != c.want {
			t.Errorf("P1.1: Limit(%d, %d, %d): %d, must be %d", c.a, c.b, c.n, got, c.want)
		}
	}
}

// All Adds of one Limit go one way, so that what they come to is the true sum, held at the ends.
func TestLimitHoldsAtTheEnds(t *testing.T) {
	for _, a := range edges() {
		for _, b := range edges() {
			for _, n := range []int{-1, 0, 1, 2, 5, 1 << 20, math.MaxInt} {
				product := new(big.Int).Mul(big.NewInt(b), big.NewInt(int64(order.Bits(n))))
				want := held(product.Add(product, big.NewInt(a)))
				if got := order.Limit(a, b, n); got != want {
					t.Errorf("P1.1: Limit(%d, %d, %d): %d, must be %d", a, b, n, got, want)
				}
			}
		}
	}
}
