package digits_test

import (
	"math/bits"
	"slices"
	"testing"

	"thicket/digits"
)

const last = 1<<40 + 1<<39 - 1 // the greatest Value of a Counter: of a 2 above 39 digits 1

// behind is the plain answer: the digits behind so many Incs. To each digit come by turns one more, and a carry if it is a 2: behind the one it is 1 or 2, behind the other 0 or 1, whichever leaves an even rest to those above.
func behind(incs int64) []int {
	var l []int
	more := int64(1)
	for n := incs; n > 0; {
		rest := n - more
		l = append(l, int(rest%2+more))
		n, more = rest/2, 1-rest%2
	}
	return l
}

// carriesBehind is the plain answer: each Inc makes the digits' sum 1 more, each carry 1 less, and their sum behind n Incs is how many binary digits n has.
func carriesBehind(incs int64) int {
	return int(incs) - bits.Len64(uint64(incs))
}

// set is the Counter behind so many Incs.
func set(incs int64) *digits.Counter {
	return digits.Set(behind(incs), carriesBehind(incs))
}

// mustTell asks all that can be told of a Counter, twice over: asking changes nothing.
func mustTell(t *testing.T, c *digits.Counter, l []int, incs int64, carries int) {
	t.Helper()
	for range 2 {
		if got := c.All(); !slices.Equal(got, l) {
			t.Errorf("P14.2: All behind %d Incs: %v, must be %v", incs, got, l)
		}
		if got := c.Value(); got != incs {
			t.Errorf("P14.3: Value behind %d Incs: %d", incs, got)
		}
		if got := c.Carries(); got != carries {
			t.Errorf("P14.2: Carries behind %d Incs: %d, must be %d", incs, got, carries)
		}
	}
}

// mustStand holds a Counter against the plain answers.
func mustStand(t *testing.T, c *digits.Counter, incs int64) {
	t.Helper()
	mustTell(t, c, behind(incs), incs, carriesBehind(incs))
}

// mustInc is the n-th Inc, and all that can be told behind it.
func mustInc(t *testing.T, c *digits.Counter, n int64) {
	t.Helper()
	want := carriesBehind(n) - carriesBehind(n-1)
	if got, ok := c.Inc(); got != want || !ok {
		t.Errorf("P14.2: Inc %d: %d, %t, must be %d, true", n, got, ok, want)
	}
	mustStand(t, c, n)
	l := c.All()
	value, ok := digits.Value(l)
	if !isRegular(l) || valueOf(l) != n || !digits.Regular(l) || value != n || !ok {
		t.Errorf("P14.3: %v behind %d Incs: Regular: %t, Value: %d, %t", l, n, digits.Regular(l), value, ok)
	}
	if t.Failed() {
		t.FailNow()
	}
}

// mustRefuse is an Inc that there is no digit for.
func mustRefuse(t *testing.T, c *digits.Counter) {
	t.Helper()
	if got, ok := c.Inc(); got != 0 || ok {
		t.Errorf("P14.2: Inc above the greatest: %d, %t, must be 0, false", got, ok)
	}
	mustTell(t, c, row(most, 1, 2), last, carriesBehind(last))
}

func TestNew(t *testing.T) {
	mustTell(t, digits.New(), nil, 0, 0)
}

func TestRun(t *testing.T) {
	c := digits.New()
	for n, l := range [][]int{{1}, {2}, {1, 1}} {
		c.Inc()
		if got := c.All(); !slices.Equal(got, l) {
			t.Errorf("P14.2: All behind Inc %d: %v, must be %v", n+1, got, l)
		}
	}
}

func TestFirstIncs(t *testing.T) {
	c, carries := digits.New(), 0
	for i, step := range []struct {
		carries int
		l       []int
	}{
		{0, []int{1}}, {0, []int{2}},
		{1, []int{1, 1}}, {0, []int{2, 1}}, {1, []int{1, 2}},
		{1, []int{2, 0, 1}}, {1, []int{1, 1, 1}}, {0, []int{2, 1, 1}}, {1, []int{1, 2, 1}}, {1, []int{2, 0, 2}}, {1, []int{1, 1, 2}},
		{1, []int{2, 1, 0, 1}}, {1, []int{1, 2, 0, 1}}, {1, []int{2, 0, 1, 1}}, {1, []int{1, 1, 1, 1}}, {0, []int{2, 1, 1, 1}}, {1, []int{1, 2, 1, 1}},
		{1, []int{2, 0, 2, 1}}, {1, []int{1, 1, 2, 1}}, {1, []int{2, 1, 0, 2}}, {1, []int{1, 2, 0, 2}}, {1, []int{2, 0, 1, 2}}, {1, []int{1, 1, 1, 2}},
		{1, []int{2, 1, 1, 0, 1}}, {1, []int{1, 2, 1, 0, 1}}, {1, []int{2, 0, 2, 0, 1}}, {1, []int{1, 1, 2, 0, 1}}, {1, []int{2, 1, 0, 1, 1}},
		{1, []int{1, 2, 0, 1, 1}}, {1, []int{2, 0, 1, 1, 1}}, {1, []int{1, 1, 1, 1, 1}}, {0, []int{2, 1, 1, 1, 1}},
	} {
		n, ok := c.Inc()
		if n != step.carries || !ok {
			t.Errorf("P14.2: Inc %d: %d, %t, must be %d, true", i+1, n, ok, step.carries)
		}
		carries += step.carries
		mustTell(t, c, step.l, int64(i+1), carries)
	}
}

// By the words of P14.2: what one Inc makes of the digits that All told ahead of it.
func TestIncByTheWords(t *testing.T) {
	c := digits.New()
	for n := range 5000 {
		l := c.All()
		want := 0
		if low := slices.Index(l, 2); low >= 0 {
			l[low], want = 0, 1
			if low+1 == len(l) {
				l = append(l, 0)
			}
			l[low+1]++
		}
		if len(l) == 0 {
			l = []int{0}
		}
		l[0]++
		if got, ok := c.Inc(); got != want || !ok || !slices.Equal(c.All(), l) {
			t.Fatalf("P14.2: Inc %d: %d, %t, %v, must be %d, true, %v", n+1, got, ok, c.All(), want, l)
		}
	}
}

func TestManyIncs(t *testing.T) {
	c := digits.New()
	for n := int64(1); n <= 1<<17; n++ {
		mustInc(t, c, n)
	}
}

// At powers of two no digit is a 2 ahead of the Inc, at three times such a one there is a digit more behind it.
func TestIncsFarOff(t *testing.T) {
	for k := range most {
		for _, odd := range []int64{1, 3, 5, 7} {
			n := odd << k
			if n > last {
				continue
			}
			from := max(n-40, 0)
			c := set(from)
			for n := from + 1; n <= min(from+80, last); n++ {
				mustInc(t, c, n)
			}
		}
	}
}

func TestTheGreatest(t *testing.T) {
	const many = 1 << 14
	c := set(last - many)
	for n := int64(last - many + 1); n <= last; n++ {
		mustInc(t, c, n)
	}
	for range 5 {
		mustRefuse(t, c)
	}
}

// Without a 2 below, the last of 40 digits is carried; of any other 40 there is one more.
func TestMostDigitsAreNoRefusal(t *testing.T) {
	for _, c := range []struct {
		incs     int64
		from, to []int
	}{
		{3 << 38, append(row(most-2, 1, 1), 2), append([]int{2}, append(row(most-3, 1, 1), 0, 1)...)},
		{1 << 40, row(most, 1, 1), append([]int{2}, row(most-1, 1, 1)...)},
		{5 << 38, append(row(most-1, 1, 2), 1), append([]int{2}, append(row(most-3, 1, 1), 0, 2)...)},
		{last - 1, append([]int{1, 2, 0}, row(most-3, 1, 2)...), append([]int{2, 0}, row(most-2, 1, 2)...)},
		{last, append([]int{2, 0}, row(most-2, 1, 2)...), row(most, 1, 2)},
	} {
		if got := behind(c.incs - 1); !slices.Equal(got, c.from) {
			t.Errorf("the digits behind %d Incs: %v, must be %v", c.incs-1, got, c.from)
		}
		if got := behind(c.incs); !slices.Equal(got, c.to) {
			t.Errorf("the digits behind %d Incs: %v, must be %v", c.incs, got, c.to)
		}
		mustInc(t, set(c.incs-1), c.incs)
	}
}

func TestCountersStandByThemselves(t *testing.T) {
	c, d := digits.New(), digits.New()
	for n := int64(1); n <= 300; n++ {
		mustInc(t, c, 2*n-1)
		mustStand(t, d, n-1)
		mustInc(t, c, 2*n)
		mustInc(t, d, n)
		mustStand(t, c, 2*n)
	}
	mustTell(t, digits.New(), nil, 0, 0)
}

func TestARefusedOneStandsByItself(t *testing.T) {
	full, c := set(last), digits.New()
	for n := int64(1); n <= 30; n++ {
		mustRefuse(t, full)
		mustInc(t, c, n)
	}
}

// scribble writes over an answer and its spare room.
func scribble(l []int) {
	l = l[:cap(l)]
	for i := range l {
		l[i] = 9
	}
}

func TestAllIsNewMemory(t *testing.T) {
	c := digits.New()
	for n := int64(0); n <= 200; n++ {
		one, two := c.All(), c.All()
		scribble(one)
		_ = append(one, 7)
		if !slices.Equal(two, behind(n)) {
			t.Fatalf("R2: two answers of All share memory: %v behind %d Incs", two, n)
		}
		mustStand(t, c, n)
		mustInc(t, c, n+1)
		if !slices.Equal(two, behind(n)) {
			t.Fatalf("R2: an answer of All behind %d Incs is changed later: %v", n, two)
		}
		for i, d := range one {
			if d != 9 {
				t.Fatalf("R2: an answer of All is changed later: its place %d is %d", i, d)
			}
		}
	}
}

func TestAllOfTheGreatestIsNewMemory(t *testing.T) {
	c := set(last)
	scribble(c.All())
	mustRefuse(t, c)
	c = set(last - 1)
	scribble(c.All())
	mustInc(t, c, last)
}
