package digits

import "slices"

// Set is a Counter as it stands behind so many Incs that no test can call them all.
func Set(l []int, carries int) *Counter {
	return &Counter{digits: slices.Clone(l), carries: carries}
}
