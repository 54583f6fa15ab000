package digits_test

import (
	"math"
	"math/rand"
	"slices"
	"testing"

	"thicket/digits"
)

const most = 40 // digits

// isRegular is the plain answer, by the words of P14.1.
func isRegular(l []int) bool {
	if len(l) > most || len(l) > 0 && l[len(l)-1] == 0 {
		return false
	}
	for i, d := range l {
		if d != 0 && d != 1 && d != 2 {
			return false
		}
		for j := range i {
			if d == 2 && l[j] == 2 && !slices.Contains(l[j:i], 0) {
				return false
			}
		}
	}
	return true
}

// valueOf is the plain answer of a Regular row: a digit counts twice what the one below does.
func valueOf(l []int) int64 {
	var sum int64
	for _, d := range slices.Backward(l) {
		sum = sum + sum + int64(d)
	}
	return sum
}

// row is so many digits: all d, but the last one.
func row(n, d, last int) []int {
	return append(slices.Repeat([]int{d}, n-1), last)
}

// mustBeRight holds both calls of P14.1 against what they must tell of a Regular row.
func mustBeRight(t *testing.T, l []int, value int64) {
	t.Helper()
	was := slices.Clone(l)
	if !digits.Regular(l) {
		t.Errorf("P14.1: Regular(%v): false", l)
	}
	if got, ok := digits.Value(l); got != value || !ok {
		t.Errorf("P14.1: Value(%v): %d, %t, must be %d, true", l, got, ok, value)
	}
	if !slices.Equal(l, was) {
		t.Errorf("R2: %v is %v now", was, l)
	}
}

// mustBeWrong holds them against what they must tell of any other row.
func mustBeWrong(t *testing.T, l []int) {
	t.Helper()
	was, head := slices.Clone(l), l[:min(len(l), most+1)]
	if digits.Regular(l) {
		t.Errorf("P14.1: Regular(%v ..): true", head)
	}
	if got, ok := digits.Value(l); got != 0 || ok {
		t.Errorf("P14.1: Value(%v ..): %d, %t, must be 0, false", head, got, ok)
	}
	if !slices.Equal(l, was) {
		t.Errorf("R2: a row that began with %v is changed: %v", was[:len(head)], head)
	}
}

// mustBe holds them against the plain answers.
func mustBe(t *testing.T, l []int) {
	t.Helper()
	if isRegular(l) {
		mustBeRight(t, l, valueOf(l))
	} else {
		mustBeWrong(t, l)
	}
}

func TestRegularRows(t *testing.T) {
	for _, c := range []struct {
		l     []int
		value int64
	}{
		{nil, 0}, {[]int{}, 0}, {make([]int, 0, 4), 0},
		{[]int{1}, 1}, {[]int{2}, 2},
		{[]int{0, 1}, 2}, {[]int{1, 1}, 3}, {[]int{2, 1}, 4}, {[]int{0, 2}, 4}, {[]int{1, 2}, 5},
		{[]int{0, 0, 1}, 4}, {[]int{2, 0, 1}, 6}, {[]int{1, 1, 1}, 7}, {[]int{0, 0, 2}, 8}, {[]int{2, 0, 2}, 10}, {[]int{1, 1, 2}, 11},
		{[]int{0, 2, 0, 2}, 20}, {[]int{2, 0, 2, 0, 2}, 42}, {[]int{2, 0, 1, 2}, 22}, {[]int{2, 1, 0, 2}, 20}, {[]int{2, 0, 0, 2}, 18},
		{[]int{2, 0, 2, 1, 0, 1, 2}, 178}, {[]int{2, 1, 1, 0, 1, 2}, 88}, {[]int{0, 0, 0, 0, 0, 0, 0, 1}, 128},
		{[]int{2, 0, 1, 0, 2}, 38}, {[]int{1, 0, 2, 0, 1}, 25},
	} {
		mustBeRight(t, c.l, c.value)
	}
}

func TestWrongRows(t *testing.T) {
	for _, l := range [][]int{
		{0}, {0, 0}, {1, 0}, {2, 0}, {2, 1, 0}, {1, 1, 1, 0}, {2, 0, 2, 0}, {0, 0, 0, 0, 0}, {1, 0, 0},
		{2, 2}, {2, 1, 2}, {2, 1, 1, 2}, {1, 2, 2}, {2, 2, 1}, {0, 2, 2}, {2, 2, 0, 1}, {2, 2, 2}, {2, 2, 0, 2}, {2, 0, 2, 2},
		{0, 2, 1, 2}, {2, 1, 2, 0, 1}, {2, 0, 2, 1, 2}, {2, 1, 2, 0, 2}, {0, 2, 1, 1, 1, 1, 2}, {2, 0, 0, 0, 2, 1, 1, 2}, {0, 0, 2, 1, 2, 0, 0, 1},
		{-1}, {3}, {math.MinInt}, {math.MaxInt}, {-1, 1}, {1, -1}, {3, 1}, {1, 3}, {0, 3}, {2, -1, 2}, {2, 3, 2}, {-2}, {4}, {1, 4, 1},
	} {
		mustBeWrong(t, l)
	}
}

func TestRowsOfMostDigits(t *testing.T) {
	apart := slices.Repeat([]int{0, 2}, most/2)
	var sum int64
	for i := 1; i < most; i += 2 {
		sum += 2 << i
	}
	mustBeRight(t, apart, sum)
	mustBeRight(t, row(most, 0, 1), 1<<39)
	mustBeRight(t, row(most, 0, 2), 1<<40)
	mustBeRight(t, row(most, 1, 1), 1<<40-1)
	mustBeRight(t, row(most, 1, 2), 1<<40+1<<39-1)
	mustBeRight(t, row(most-1, 1, 1), 1<<39-1)
	mustBeRight(t, row(most-1, 0, 2), 1<<39)
	mustBeWrong(t, row(most, 1, 0))
	mustBeWrong(t, row(most, 0, 0))
	mustBeWrong(t, append([]int{2}, row(most-1, 1, 2)...))
	mustBeRight(t, append([]int{2, 0}, row(most-2, 1, 2)...), 1<<40+1<<39-2)
	mustBeRight(t, append([]int{2}, row(most-1, 1, 1)...), 1<<40)
}

func TestOneDigitMoreThanMost(t *testing.T) {
	for n := most + 1; n <= most+5; n++ {
		for d := range 3 {
			for last := range 3 {
				mustBeWrong(t, row(n, d, last))
			}
		}
	}
	mustBeWrong(t, row(64, 0, 1))
	mustBeWrong(t, row(65, 0, 1))
	mustBeWrong(t, append(row(most, 1, 2), 0))
	mustBeWrong(t, append(row(most, 0, 1), 1))
}

func TestLongRows(t *testing.T) {
	const long = 1 << 20
	for d := range 3 {
		mustBeWrong(t, row(long, d, 1))
		mustBeWrong(t, append(row(most, 1, 1), make([]int, long)...))
	}
}

// Every row of digits next to 0, 1 and 2, and longer ones of these three.
func TestAllSmallRows(t *testing.T) {
	for _, c := range []struct{ from, to, long int }{{-1, 3, 6}, {0, 2, 9}} {
		rows := [][]int{nil}
		for at := 0; at < len(rows); at++ {
			l := rows[at]
			mustBe(t, l)
			if t.Failed() {
				t.Fatalf("row %v", l)
			}
			for d := c.from; d <= c.to && len(l) < c.long; d++ {
				rows = append(rows, append(slices.Clone(l), d))
			}
		}
	}
}

// Some of the odd ones end in a byte or in 32 bits that would make a digit.
func TestOddDigits(t *testing.T) {
	odd := []int{
		math.MinInt, math.MinInt + 1, math.MinInt + 2, -1 << 32, -1<<32 + 1, -256, -254, -3, -2, -1,
		3, 4, 5, 256, 257, 258, 1 << 32, 1<<32 + 1, 1<<32 + 2, math.MaxInt - 1, math.MaxInt,
	}
	for _, l := range [][]int{{1}, {2}, {1, 1}, {2, 0, 1, 2}, {0, 1, 0, 2, 1}, row(most, 1, 1), row(most, 0, 2)} {
		for at := range l {
			for _, d := range odd {
				m := slices.Clone(l)
				m[at] = d
				mustBeWrong(t, m)
			}
		}
	}
}

// someRow may have any digits; most rows are Regular but for a digit or two.
func someRow(q *rand.Rand) []int {
	var l []int
	next := 3
	for range q.Intn(most + 2) {
		d := q.Intn(next)
		switch d {
		case 0:
			next = 3
		case 2:
			next = 2
		}
		l = append(l, d)
	}
	for len(l) > 0 && q.Intn(2) == 0 {
		l[q.Intn(len(l))] = q.Intn(4)
	}
	if len(l) > 0 && q.Intn(4) > 0 {
		l[len(l)-1] = 1
	}
	return l
}

func TestAnyRow(t *testing.T) {
	q := rand.New(rand.NewSource(14))
	right := 0
	for range 20000 {
		l := someRow(q)
		mustBe(t, l)
		if t.Failed() {
			t.Fatalf("row %v", l)
		}
		if isRegular(l) {
			right++
		}
	}
	if right < 5000 || right > 15000 {
		t.Errorf("%d rows of 20000 were Regular: too few of one sort", right)
	}
}

// What stands behind the length would make a Regular row wrong, and a Regular one of a wrong one.
func TestSpareRoomIsLeftAlone(t *testing.T) {
	for _, whole := range [][]int{{1, 2, 2, 5, 0}, {2, 1, 0, 1, 2}, {2, 0, 2, 0, 2, -1}, {0, 0, 1}, {1, math.MaxInt}, append(row(most, 1, 2), 1, 2)} {
		was := slices.Clone(whole)
		for n := range whole {
			l := whole[:n]
			tight := slices.Clip(slices.Clone(l))
			value, ok := digits.Value(l)
			if ok != isRegular(tight) || digits.Regular(l) != ok || ok && value != valueOf(tight) {
				t.Errorf("R5: Regular, Value of %v ahead of %v: %t, %d, %t", l, whole[n:], digits.Regular(l), value, ok)
			}
			if !slices.Equal(whole, was) {
				t.Fatalf("R2: %v is %v now", was, whole)
			}
		}
	}
}
