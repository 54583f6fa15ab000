package skewnum_test

import (
	"math"
	"math/rand"
	"slices"
	"testing"

	"thicket/skewnum"
)

const (
	greatest = 28        // Rank
	limit    = 1 << 28   // of Of and Joined
	last     = 1<<30 - 2 // the greatest Value: of Rank 28 twice
)

// ranks are those from one to another, each once.
func ranks(from, to int) []int {
	var l []int
	for k := from; k <= to; k++ {
		l = append(l, k)
	}
	return l
}

// isRight is the plain answer: each one above the one ahead of it, or the second one the same as the first.
func isRight(l []int) bool {
	for i, k := range l {
		if k < 0 || k > greatest {
			return false
		}
		if i == 1 && k == l[0] {
			continue
		}
		if i > 0 && !(k > l[i-1]) {
			return false
		}
	}
	return true
}

// valueOf is the plain answer of a Right row: a Rank counts itself and what two of the Rank below do.
func valueOf(l []int) int {
	sum := 0
	for _, k := range l {
		n := 1
		for range k {
			n = 2*n + 1
		}
		sum += n
	}
	return sum
}

// incOf is the plain answer, by the words of P10.1.
func incOf(l []int) []int {
	if len(l) > 1 && l[0] == l[1] {
		if l[0] == greatest {
			return nil
		}
		return append([]int{l[0] + 1}, l[2:]...)
	}
	return append([]int{0}, l...)
}

// decOf is the plain answer, by the words of P10.1.
func decOf(l []int) []int {
	if len(l) == 0 {
		return nil
	}
	if l[0] == 0 {
		return slices.Clone(l[1:])
	}
	return append([]int{l[0] - 1, l[0] - 1}, l[1:]...)
}

// mustBeRight holds the four calls of P10.1 against what they must tell of a skew number.
func mustBeRight(t *testing.T, l []int, value int, inc, dec []int) {
	t.Helper()
	was := slices.Clone(l)
	if !skewnum.Right(l) {
		t.Errorf("P10.1: Right(%v): false", l)
	}
	if got := skewnum.Value(l); got != value {
		t.Errorf("P10.1: Value(%v): %d, must be %d", l, got, value)
	}
	if got := skewnum.Inc(l); !slices.Equal(got, inc) {
		t.Errorf("P10.1: Inc(%v): %v, must be %v", l, got, inc)
	}
	if got := skewnum.Dec(l); !slices.Equal(got, dec) {
		t.Errorf("P10.1: Dec(%v): %v, must be %v", l, got, dec)
	}
	if !slices.Equal(l, was) {
		t.Errorf("R2: %v is %v now", was, l)
	}
}

// mustBeWrong holds every call against what it must tell of a row that is no skew number.
func mustBeWrong(t *testing.T, l []int) {
	t.Helper()
	head := l[:min(len(l), 8)]
	if skewnum.Right(l) {
		t.Errorf("P10.1: Right(%v ..): true", head)
	}
	if got := skewnum.Value(l); got != -1 {
		t.Errorf("P10.1: Value(%v ..): %d, must be -1", head, got)
	}
	if got := skewnum.Inc(l); got != nil {
		t.Errorf("P10.1: Inc(%v ..): %v, must be nil", head, got)
	}
	if got := skewnum.Dec(l); got != nil {
		t.Errorf("P10.1: Dec(%v ..): %v, must be nil", head, got)
	}
	for _, m := range [][]int{nil, {0}, {0, 0, 1}, l} {
		if got := skewnum.Joined(l, m); got != nil {
			t.Errorf("P10.2: Joined(%v .., %v): %v, must be nil", head, m[:min(len(m), 8)], got)
		}
		if got := skewnum.Joined(m, l); got != nil {
			t.Errorf("P10.2: Joined(%v, %v ..): %v, must be nil", m[:min(len(m), 8)], head, got)
		}
	}
}

func TestRightRows(t *testing.T) {
	for _, c := range []struct {
		l        []int
		value    int
		inc, dec []int
	}{
		{nil, 0, []int{0}, nil},
		{[]int{}, 0, []int{0}, nil},
		{make([]int, 0, 4), 0, []int{0}, nil},
		{[]int{0}, 1, []int{0, 0}, nil},
		{[]int{0, 0}, 2, []int{1}, []int{0}},
		{[]int{1}, 3, []int{0, 1}, []int{0, 0}},
		{[]int{0, 1}, 4, []int{0, 0, 1}, []int{1}},
		{[]int{0, 0, 1}, 5, []int{1, 1}, []int{0, 1}},
		{[]int{1, 1}, 6, []int{2}, []int{0, 0, 1}},
		{[]int{2}, 7, []int{0, 2}, []int{1, 1}},
		{[]int{1, 2}, 10, []int{0, 1, 2}, []int{0, 0, 2}},
		{[]int{1, 1, 2}, 13, []int{2, 2}, []int{0, 0, 1, 2}},
		{[]int{1, 1, 3}, 21, []int{2, 3}, []int{0, 0, 1, 3}},
		{[]int{2, 2, 5, 9}, 1100, []int{3, 5, 9}, []int{1, 1, 2, 5, 9}},
		{[]int{5, 9}, 1086, []int{0, 5, 9}, []int{4, 4, 9}},
		{[]int{28}, 1<<29 - 1, []int{0, 28}, []int{27, 27}},
		{[]int{0, 28}, 1 << 29, []int{0, 0, 28}, []int{28}},
		{[]int{27, 27}, 1<<29 - 2, []int{28}, []int{26, 26, 27}},
		{[]int{27, 28}, 1<<29 + 1<<28 - 2, []int{0, 27, 28}, []int{26, 26, 28}},
		{[]int{27, 27, 28}, last - 1, []int{28, 28}, []int{26, 26, 27, 28}},
		{[]int{28, 28}, last, nil, []int{27, 27, 28}},
		{ranks(0, 28), last - 29, append([]int{0}, ranks(0, 28)...), ranks(1, 28)},
		{append([]int{0}, ranks(0, 28)...), last - 28, append([]int{1}, ranks(1, 28)...), ranks(0, 28)},
	} {
		mustBeRight(t, c.l, c.value, c.inc, c.dec)
	}
}

func TestWrongRows(t *testing.T) {
	for _, l := range [][]int{
		{-1}, {29}, {math.MinInt}, {math.MaxInt},
		{-1, 0}, {-1, -1}, {-1, -1, 0}, {-2, -1, 0, 1}, {28, 29}, {0, 29}, {29, 29}, {28, 28, 29}, {-1, 29}, {-1, 28},
		{math.MinInt, math.MaxInt}, {math.MaxInt, math.MinInt}, {math.MinInt, math.MinInt}, {math.MaxInt, math.MaxInt},
		{0, math.MaxInt}, {0, math.MinInt}, {math.MinInt, 0}, {math.MaxInt, 0}, {0, math.MinInt, 28}, {0, math.MaxInt, 28},
		{1, 0}, {28, 27}, {28, 0}, {1, 1, 0}, {0, 0, 2, 1}, {0, 3, 2}, {0, 1, 0}, {5, 2, 9}, {1, 2, 3, 4, 0},
		{0, 0, 0}, {7, 7, 7}, {28, 28, 28}, {0, 0, 0, 1}, {0, 0, 0, 0},
		{0, 1, 1}, {0, 0, 1, 1}, {0, 0, 2, 2}, {0, 1, 2, 2}, {0, 28, 28}, {3, 3, 4, 4, 5}, {0, 1, 2, 3, 3},
		{0, -1, 1}, {0, 29, 28}, {1, -5, 3},
		ranks(-1, 28), ranks(0, 29), ranks(1, 29), ranks(-1, 5),
		append(ranks(0, 28), 28), append(ranks(0, 28), 0), append([]int{0, 0}, ranks(0, 28)...),
	} {
		mustBeWrong(t, l)
	}
}

func TestLongRows(t *testing.T) {
	const long = 1 << 20
	falling := ranks(0, long-1)
	slices.Reverse(falling)
	for _, l := range [][]int{make([]int, long), ranks(0, long-1), falling, append([]int{0}, ranks(0, long)...), append(ranks(0, 28), make([]int, long)...)} {
		mustBeWrong(t, l)
	}
}

// Every row of five at most out of Ranks that lie close to one another and to both ends.
func TestAllSmallRows(t *testing.T) {
	of := []int{-1, 0, 1, 2, 3, 27, 28, 29}
	rows := [][]int{nil}
	for at := 0; at < len(rows); at++ {
		l := rows[at]
		if isRight(l) {
			mustBeRight(t, l, valueOf(l), incOf(l), decOf(l))
		} else {
			mustBeWrong(t, l)
		}
		if t.Failed() {
			t.Fatalf("row %v", l)
		}
		if len(l) == 5 {
			continue
		}
		for _, k := range of {
			rows = append(rows, append(slices.Clone(l), k))
		}
	}
}

// What stands behind the length would make a right row wrong, and another one of a wrong one.
func TestSpareRoomIsLeftAlone(t *testing.T) {
	for _, whole := range [][]int{{0, 0, 1, 1, 5}, {2, 0, 9, -1}, {1, 1, 1, 1}, {4, math.MinInt}, {28, 28, 28}, {0, 0, 0, 0}} {
		was := slices.Clone(whole)
		for n := range whole {
			l := whole[:n]
			tight := slices.Clip(slices.Clone(l))
			if skewnum.Right(l) != isRight(tight) || skewnum.Value(l) != skewnum.Value(tight) {
				t.Errorf("R5: Right, Value of %v ahead of %v: %t, %d", l, whole[n:], skewnum.Right(l), skewnum.Value(l))
			}
			if !slices.Equal(skewnum.Inc(l), skewnum.Inc(tight)) || !slices.Equal(skewnum.Dec(l), skewnum.Dec(tight)) {
				t.Errorf("R5: Inc, Dec of %v ahead of %v: %v, %v", l, whole[n:], skewnum.Inc(l), skewnum.Dec(l))
			}
			if !slices.Equal(skewnum.Joined(l, nil), skewnum.Joined(tight, nil)) || !slices.Equal(skewnum.Joined(nil, l), skewnum.Joined(nil, tight)) || !slices.Equal(skewnum.Joined(l, l), skewnum.Joined(tight, tight)) {
				t.Errorf("R5: Joined of %v ahead of %v: %v, %v, %v", l, whole[n:], skewnum.Joined(l, nil), skewnum.Joined(nil, l), skewnum.Joined(l, l))
			}
			if !slices.Equal(whole, was) {
				t.Fatalf("R2: %v is %v now", was, whole)
			}
		}
	}
}

// scribble writes over an answer and its spare room.
func scribble(l []int) {
	l = l[:cap(l)]
	for i := range l {
		l[i] = -99
	}
}

func TestAnswersAreNewMemory(t *testing.T) {
	for _, whole := range [][]int{{9}, {0, 9}, {0, 0, 9}, {1, 9}, {1, 1, 9}, {0, 3, 5, 9}, {3, 3, 5, 9}, {2, 5, 7, 8, 9, 10, 9}} {
		l, was := whole[:len(whole)-1], slices.Clone(whole)
		for i, call := range []func() []int{
			func() []int { return skewnum.Inc(l) },
			func() []int { return skewnum.Dec(l) },
			func() []int { return skewnum.Joined(l, nil) },
			func() []int { return skewnum.Joined(nil, l) },
			func() []int { return skewnum.Joined(l, l) },
			func() []int { return skewnum.Of(100) },
		} {
			first, second := call(), call()
			want := slices.Clone(second)
			scribble(first)
			if !slices.Equal(whole, was) {
				t.Fatalf("R2: call %d: what is written into its answer is seen in %v, that was %v", i, whole, was)
			}
			if !slices.Equal(second, want) || !slices.Equal(call(), want) {
				t.Errorf("R2: call %d of %v: what is written into one answer is seen in another: %v", i, was, second)
			}
		}
	}
}

func TestOf(t *testing.T) {
	for _, c := range []struct {
		n    int
		want []int
	}{
		{math.MinInt, nil}, {math.MinInt + 1, nil}, {-limit, nil}, {-2, nil}, {-1, nil}, {0, nil},
		{1, []int{0}}, {2, []int{0, 0}}, {3, []int{1}}, {4, []int{0, 1}}, {5, []int{0, 0, 1}}, {6, []int{1, 1}}, {7, []int{2}},
		{13, []int{1, 1, 2}}, {14, []int{2, 2}}, {100, []int{1, 1, 4, 5}}, {1000, []int{1, 1, 2, 4, 5, 6, 7, 8}},
		{1<<27 - 1, []int{26}}, {1 << 27, []int{0, 26}}, {limit - 3, []int{25, 25, 26}}, {limit - 2, []int{26, 26}}, {limit - 1, []int{27}},
		{limit, []int{0, 27}},
		{limit + 1, nil}, {limit + 2, nil}, {1<<29 - 2, nil}, {1<<29 - 1, nil}, {last, nil}, {last + 1, nil}, {1 << 32, nil}, {math.MaxInt - 1, nil}, {math.MaxInt, nil},
	} {
		if got := skewnum.Of(c.n); !slices.Equal(got, c.want) {
			t.Errorf("P10.2: Of(%d): %v, must be %v", c.n, got, c.want)
		}
	}
}

func TestOfAroundPowers(t *testing.T) {
	for k := range 29 {
		for n := max(1<<k-40, 1); n <= min(1<<k+40, limit); n++ {
			if l := skewnum.Of(n); !isRight(l) || valueOf(l) != n {
				t.Errorf("P10.2: Of(%d): %v", n, l)
			}
		}
	}
}

func TestJoined(t *testing.T) {
	for _, c := range []struct{ l, m, want []int }{
		{nil, nil, nil}, {[]int{}, nil, nil}, {nil, []int{}, nil}, {make([]int, 0, 2), make([]int, 0, 2), nil},
		{nil, []int{1}, []int{1}}, {[]int{1}, nil, []int{1}}, {nil, []int{0, 0, 3}, []int{0, 0, 3}}, {[]int{}, []int{4, 4}, []int{4, 4}},
		{[]int{0}, []int{0}, []int{0, 0}}, {[]int{0, 0}, []int{0}, []int{1}}, {[]int{0, 0}, []int{0, 0}, []int{0, 1}},
		{[]int{1}, []int{1}, []int{1, 1}}, {[]int{1, 1}, []int{0}, []int{2}}, {[]int{2}, []int{1, 1}, []int{1, 1, 2}},
		{[]int{3, 5}, []int{3, 5}, []int{2, 2, 3, 6}},
		{[]int{27}, nil, []int{27}}, {[]int{0, 27}, nil, []int{0, 27}}, {[]int{27}, []int{0}, []int{0, 27}}, {[]int{0}, []int{27}, []int{0, 27}},
		{[]int{0, 26}, []int{0, 26}, []int{0, 27}}, {[]int{26, 26}, []int{0, 0}, []int{0, 27}}, {[]int{26}, []int{26}, []int{26, 26}},
		{[]int{0, 0, 27}, nil, nil}, {nil, []int{0, 0, 27}, nil}, {[]int{0, 27}, []int{0}, nil}, {[]int{27}, []int{0, 0}, nil}, {[]int{0, 0}, []int{27}, nil},
		{[]int{0, 26}, []int{0, 0, 26}, nil}, {[]int{27}, []int{27}, nil}, {[]int{28}, nil, nil}, {nil, []int{28}, nil}, {[]int{28, 28}, []int{28, 28}, nil},
		{ranks(0, 28), append([]int{0}, ranks(0, 28)...), nil}, {nil, ranks(0, 28), nil},
	} {
		l, m := slices.Clone(c.l), slices.Clone(c.m)
		if got := skewnum.Joined(c.l, c.m); !slices.Equal(got, c.want) {
			t.Errorf("P10.2: Joined(%v, %v): %v, must be %v", c.l, c.m, got, c.want)
		}
		if !slices.Equal(c.l, l) || !slices.Equal(c.m, m) {
			t.Errorf("R2: Joined: %v and %v are %v and %v now", l, m, c.l, c.m)
		}
	}
}

func TestJoinedOfPiecesOfOneList(t *testing.T) {
	whole := []int{1, 1, 4, 6, 28}
	if got := skewnum.Joined(whole[:4], whole[:3]); !slices.Equal(got, []int{0, 1, 2, 5, 6}) { // 164 and 37
		t.Errorf("P10.2: Joined of two pieces of one list: %v", got)
	}
	if !slices.Equal(whole, []int{1, 1, 4, 6, 28}) {
		t.Errorf("R2: the list is %v now", whole)
	}
}

func TestJoinedOfAnyTwo(t *testing.T) {
	q := rand.New(rand.NewSource(10))
	for range 3000 {
		l, m := someRow(q), someRow(q)
		n := valueOf(l) + valueOf(m)
		got := skewnum.Joined(l, m)
		if n == 0 || n > limit {
			if got != nil {
				t.Fatalf("P10.2: Joined(%v, %v): %v, must be nil", l, m, got)
			}
			continue
		}
		if !isRight(got) || valueOf(got) != n || !slices.Equal(got, skewnum.Of(n)) {
			t.Fatalf("P10.2: Joined(%v, %v): %v, must be of Value %d", l, m, got, n)
		}
	}
}

// someRow is a skew number whose Ranks may lie anywhere; most are low enough to be joined.
func someRow(q *rand.Rand) []int {
	bound := 1 + q.Intn(greatest+1)
	var l []int
	for k := range bound {
		if q.Intn(3) == 0 {
			l = append(l, k)
		}
	}
	if len(l) > 0 && q.Intn(2) == 0 {
		l = append(l[:1:1], l...)
	}
	return l
}

// rightRows are all skew numbers of Ranks below so many.
func rightRows(below int) [][]int {
	var rows [][]int
	for set := range 1 << below {
		var l []int
		for k := range below {
			if set>>k&1 == 1 {
				l = append(l, k)
			}
		}
		rows = append(rows, l)
		if len(l) > 0 {
			rows = append(rows, append(l[:1:1], l...))
		}
	}
	return rows
}

// As many rows as there are Values, and no Value twice: one of each.
func TestOneOfEachValue(t *testing.T) {
	const below = 14
	rows := rightRows(below)
	found := make([][]int, len(rows))
	for _, l := range rows {
		n := skewnum.Value(l)
		if n < 0 || n >= len(rows) {
			t.Fatalf("P10.3: Value(%v): %d, but there are %d rows", l, n, len(rows))
		}
		if found[n] != nil || n == 0 && len(l) > 0 {
			t.Fatalf("P10.3: %v and %v are both of Value %d", found[n], l, n)
		}
		found[n] = l
		if got := skewnum.Of(n); !slices.Equal(got, l) {
			t.Fatalf("P10.3: Of(%d): %v, but there is %v", n, got, l)
		}
		mustTurnBack(t, l, n)
	}
}

// mustTurnBack takes what Inc and Dec tell of a skew number of that Value back again.
func mustTurnBack(t *testing.T, l []int, n int) {
	t.Helper()
	if up := skewnum.Inc(l); n < last && (skewnum.Value(up) != n+1 || !slices.Equal(skewnum.Dec(up), l)) {
		t.Fatalf("P10.3: Inc(%v): %v, of Value %d, and Dec of it %v", l, up, skewnum.Value(up), skewnum.Dec(up))
	}
	if down := skewnum.Dec(l); n > 0 && (skewnum.Value(down) != n-1 || !slices.Equal(skewnum.Inc(down), l)) {
		t.Fatalf("P10.3: Dec(%v): %v, of Value %d, and Inc of it %v", l, down, skewnum.Value(down), skewnum.Inc(down))
	}
}

func TestCountUpAndDown(t *testing.T) {
	const many = 1 << 15
	var l []int
	for n := range many {
		if skewnum.Value(l) != n || !slices.Equal(l, skewnum.Of(n)) {
			t.Fatalf("P10.3: %v, must be of Value %d", l, n)
		}
		l = skewnum.Inc(l)
	}
	for n := many; n > 0; n-- {
		if skewnum.Value(l) != n || !slices.Equal(l, skewnum.Of(n)) {
			t.Fatalf("P10.3: %v, must be of Value %d", l, n)
		}
		l = skewnum.Dec(l)
	}
	if len(l) != 0 {
		t.Errorf("P10.3: %v, must be empty", l)
	}
}

// Of goes up to 2^28 alone, but Inc and Dec to the greatest skew number that there is.
func TestCountAtTheGreatest(t *testing.T) {
	const many = 1 << 15
	l := []int{greatest, greatest}
	for n := last; n > last-many; n-- {
		if !isRight(l) || skewnum.Value(l) != n {
			t.Fatalf("P10.3: %v, must be of Value %d", l, n)
		}
		mustTurnBack(t, l, n)
		l = skewnum.Dec(l)
	}
	for range many {
		l = skewnum.Inc(l)
	}
	if !slices.Equal(l, []int{greatest, greatest}) || skewnum.Inc(l) != nil {
		t.Errorf("P10.3: back at %v, Inc of it %v", l, skewnum.Inc(l))
	}
}

func TestTurnBackAnywhere(t *testing.T) {
	q := rand.New(rand.NewSource(11))
	for range 3000 {
		l := someRow(q)
		mustBeRight(t, l, valueOf(l), incOf(l), decOf(l))
		mustTurnBack(t, l, valueOf(l))
	}
}
