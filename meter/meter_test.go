package meter_test

import (
	"math"
	"math/big"
	"math/rand"
	"testing"

	"thicket/meter"
)

const (
	greatest = math.MaxInt64
	least    = math.MinInt64
)

// mustTell asks all that can be told of a meter, twice over: asking changes nothing.
func mustTell(t *testing.T, m *meter.Meter, steps, spent, most int64) {
	t.Helper()
	for range 2 {
		if got := m.Steps(); got != steps {
			t.Errorf("P4.1: Steps: %d, must be %d", got, steps)
		}
		if got := m.Spent(); got != spent {
			t.Errorf("P4.1: Spent: %d, must be %d", got, spent)
		}
		if got := m.Most(); got != most {
			t.Errorf("P4.1: Most: %d, must be %d", got, most)
		}
		mustBeOver(t, m, spent)
	}
}

// mustBeOver holds Over against limits of every size; those next to what is spent are where it turns.
func mustBeOver(t *testing.T, m *meter.Meter, spent int64) {
	t.Helper()
	limits := []int64{least, least + 1, -2, -1, 0, 1, 2, spent, greatest - 1, greatest}
	if spent > 0 {
		limits = append(limits, spent-1)
	}
	if spent < greatest {
		limits = append(limits, spent+1)
	}
	for _, limit := range limits {
		if got := m.Over(limit); got != (spent > limit) {
			t.Errorf("P4.1: Over(%d): %t, but %d are spent", limit, got, spent)
		}
	}
}

func TestNew(t *testing.T) {
	m := meter.New()
	if m.Over(0) {
		t.Errorf("P4.1: Over(0) at first: true")
	}
	mustTell(t, m, 0, 0, 0)
}

func TestRun(t *testing.T) {
	m := meter.New()
	m.Tick(5)
	m.Begin()
	m.Tick(2)
	mustTell(t, m, 7, 2, 5)
}

func TestTick(t *testing.T) {
	m := meter.New()
	var sum int64
	for _, n := range []int64{1, 1, 0, 3, 1 << 40, 7, 0} {
		m.Tick(n)
		sum += n
		mustTell(t, m, sum, sum, sum)
	}
}

func TestTickBelowNothing(t *testing.T) {
	m := meter.New()
	for _, n := range []int64{-1, -2, -1 << 40, least + 1, least} {
		m.Tick(n)
		mustTell(t, m, 0, 0, 0)
	}
	m.Tick(6)
	m.Begin()
	m.Tick(4)
	for _, n := range []int64{-1, -4, -5, -10, -11, least + 1, least} {
		m.Tick(n)
		mustTell(t, m, 10, 4, 6)
	}
	m.Tick(greatest)
	m.Tick(least)
	mustTell(t, m, greatest, greatest-6, greatest-6)
}

func TestStepsHoldAtTheGreatest(t *testing.T) {
	for _, c := range []struct{ first, second, want int64 }{
		{greatest, 0, greatest}, {0, greatest, greatest}, {greatest, 1, greatest}, {1, greatest, greatest},
		{greatest, greatest, greatest}, {greatest - 1, 1, greatest}, {greatest - 1, 2, greatest},
		{greatest - 2, 1, greatest - 1}, {1 << 62, 1 << 62, greatest}, {1 << 62, 1<<62 - 1, greatest},
	} {
		m := meter.New()
		m.Tick(c.first)
		mustTell(t, m, c.first, c.first, c.first)
		m.Tick(c.second)
		mustTell(t, m, c.want, c.want, c.want)
	}
}

// Where Steps stands still there are no more steps since a Begin either.
func TestSpentAtTheGreatest(t *testing.T) {
	m := meter.New()
	m.Tick(17)
	m.Begin()
	m.Tick(greatest)
	mustTell(t, m, greatest, greatest-17, greatest-17)
	m.Tick(5)
	mustTell(t, m, greatest, greatest-17, greatest-17)
	m.Begin()
	mustTell(t, m, greatest, 0, greatest-17)
	m.Tick(greatest)
	mustTell(t, m, greatest, 0, greatest-17)
	m.Begin()
	mustTell(t, m, greatest, 0, greatest-17)
}

func TestSpentIsSinceTheLastBegin(t *testing.T) {
	m := meter.New()
	m.Tick(3)
	mustTell(t, m, 3, 3, 3) // ahead of a Begin: since New
	m.Begin()
	mustTell(t, m, 3, 0, 3)
	m.Tick(4)
	m.Tick(1)
	mustTell(t, m, 8, 5, 5)
	m.Begin()
	mustTell(t, m, 8, 0, 5)
	m.Tick(2)
	mustTell(t, m, 10, 2, 5)
}

func TestBeginAgain(t *testing.T) {
	m := meter.New()
	for range 3 {
		m.Begin()
		mustTell(t, m, 0, 0, 0)
	}
	m.Tick(9)
	for range 3 {
		m.Begin()
		mustTell(t, m, 9, 0, 9)
	}
	m.Tick(0)
	m.Tick(-3)
	m.Begin()
	mustTell(t, m, 9, 0, 9)
	m.Tick(4)
	mustTell(t, m, 13, 4, 9)
}

func TestMost(t *testing.T) {
	for _, c := range []struct {
		name   string
		spends []int64
	}{
		{"the first", []int64{8, 3, 5, 0, 1}},
		{"one in the middle", []int64{2, 0, 7, 6, 3}},
		{"the one now", []int64{4, 0, 2, 9}},
		{"as great ones", []int64{4, 4, 0, 4}},
		{"rising", []int64{1, 2, 3, 4}},
		{"nothing ahead of the first Begin", []int64{0, 6, 5}},
	} {
		m := meter.New()
		var steps, most int64
		for i, n := range c.spends {
			if i > 0 {
				m.Begin()
				mustTell(t, m, steps, 0, most)
			}
			m.Tick(n)
			steps, most = steps+n, max(most, n)
			mustTell(t, m, steps, n, most)
		}
		if t.Failed() {
			t.Fatal(c.name)
		}
	}
}

// What is spent now counts while the call still runs, not from its Begin on alone.
func TestMostGrowsWithinACall(t *testing.T) {
	m := meter.New()
	m.Tick(3)
	m.Begin()
	for n := int64(1); n <= 6; n++ {
		m.Tick(1)
		mustTell(t, m, 3+n, n, max(3, n))
	}
}

// A limit is held against what is spent, not against all steps or the most.
func TestOver(t *testing.T) {
	m := meter.New()
	m.Tick(100)
	if !m.Over(99) || m.Over(100) {
		t.Errorf("P4.1: Over(99), Over(100) of 100: %t, %t", m.Over(99), m.Over(100))
	}
	m.Begin()
	if m.Over(0) || !m.Over(-1) || !m.Over(least) {
		t.Errorf("P4.1: Over(0), Over(-1), Over(least) of 0: %t, %t, %t", m.Over(0), m.Over(-1), m.Over(least))
	}
	m.Tick(2)
	if m.Over(2) || !m.Over(1) || m.Over(greatest) {
		t.Errorf("P4.1: Over(2), Over(1), Over(greatest) of 2: %t, %t, %t", m.Over(2), m.Over(1), m.Over(greatest))
	}
}

func TestMetersStandByThemselves(t *testing.T) {
	p, q := meter.New(), meter.New()
	p.Tick(5)
	mustTell(t, q, 0, 0, 0)
	q.Tick(3)
	p.Begin()
	mustTell(t, p, 5, 0, 5)
	mustTell(t, q, 3, 3, 3)
	q.Begin()
	q.Tick(7)
	p.Tick(1)
	mustTell(t, p, 6, 1, 5)
	mustTell(t, q, 10, 7, 7)
	mustTell(t, meter.New(), 0, 0, 0)
}

// someSteps are mostly few, now and then below 0 or so many that the sum comes near the greatest number.
func someSteps(q *rand.Rand) int64 {
	switch q.Intn(40) {
	case 0:
		return -q.Int63()
	case 1:
		return q.Int63() >> q.Intn(63)
	}
	return int64(q.Intn(20) - 4)
}

// held is a sum that does not go below 0, as an int64.
func held(n *big.Int) int64 {
	if n.IsInt64() {
		return n.Int64()
	}
	return greatest
}

// The plain answer: all steps summed up exactly, and a list of how many there were at New and at each Begin.
func TestAgainstAPlainCount(t *testing.T) {
	q := rand.New(rand.NewSource(4))
	for run := range 60 {
		m := meter.New()
		sum := new(big.Int)
		begins := []int64{0}
		for call := range 200 {
			if q.Intn(4) == 0 {
				m.Begin()
				begins = append(begins, held(sum))
			} else {
				n := someSteps(q)
				m.Tick(n)
				sum.Add(sum, big.NewInt(max(n, 0)))
			}
			steps := held(sum)
			spent := steps - begins[len(begins)-1]
			most := spent
			for i := 1; i < len(begins); i++ {
				most = max(most, begins[i]-begins[i-1])
			}
			mustTell(t, m, steps, spent, most)
			if t.Failed() {
				t.Fatalf("run %d, call %d", run, call)
			}
		}
	}
}
